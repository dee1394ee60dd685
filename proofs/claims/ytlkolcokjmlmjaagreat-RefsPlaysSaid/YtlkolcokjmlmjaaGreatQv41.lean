/- Texts put together: VGw8, VGw9, VGp0, VGp1. -/
import Derived.Test.YtlkolcokjmlmjaaGreatQv22
import Derived.Test.YtlkolcokjmlmjaaGreatQv40
import Derived.Test.YtlkolcokjmlmjaaGreatQv29
set_option linter.unusedVariables false
set_option linter.unusedSimpArgs false
namespace Go.Proofs.YtlkolcokjmlmjaaGreat.Tx
open Go.RowKit Go.Maps Go.Proofs.YtlkolcokjmlmjaaGreat.Sh
set_option maxRecDepth 100000 in
set_option maxHeartbeats 800000 in
theorem bclone_big (v:Value) (bs:List UInt8) (w:World) (h:SlV w v (bs.map bv)) (hn:bs.length≤140737488355328):Calls Tryz.prog 106 #[v] w fun e w'=>∃ v',e=.returned v'∧OwnV 5 w' w.heap.size v' (bs.map bv)∧Below w.heap.size w w':=by
 obtain ⟨A,c,rfl,hlc,hcm,hR⟩:=(h.below ((Below.refl w.heap.size w).alloc (Nat.le_refl _) (.cells #[] 5))).len
 rw [List.length_map] at hlc hR ⊢
 obtain ⟨l,hl⟩:∃ l,bs.length=l:=⟨_,rfl⟩
 have hnil:=fun (w:World)=>Lib.run_eql_slice_nil (P:=Tryz.prog) w 32 5 A l c 0 0 Tryz.underlying32
 rcases A with _ | ad
 ·have hb0 : bs = [] := by
   cases bs with
   | nil=>rfl
   | cons x r =>
    obtain ⟨ad,e,_⟩:=hR.2 (by simp)
    cases e
  subst hb0
  simp only [List.length_nil] at hl hnil
  subst hl
  simp only [Option.isNone] at hnil
  clear hR hlc hcm h
  go_enter Tryz.func106,Tryz.ntmps106
  go_wp2_with fail
  go_ret
  exact ⟨_,rfl,OwnV.nil_ _ _,Below.refl _ _⟩
 ·have hown:OwnV 5 (w.alloc (.cells #[] 5)) w.heap.size (.slice (some ⟨w.heap.size,0,none⟩) 0 0) (([]:List UInt8).map bv):=World.ownsRow_made w #[] 0 (Nat.le_refl _) (by unfold maxLen;omega) rfl
  rw [hl] at hR hn ⊢
  simp only [Option.isNone] at hnil
  have hsm:([]:List UInt8).length+l≤140737488355328:=by simp;omega
  have hz:w.heap.size≤(w.alloc (.cells #[] 5)).heap.size:=by simp
  have HR:=Lib.hid hR
  have HOWN:=Lib.hid hown
  clear hR hown hl h hlc hcm
  go_enter Tryz.func106,Tryz.ntmps106
  go_wp2_with (at_builtin;refine append_bytes rfl (.tmp 5) (.tmp 6) rfl _ w.heap.size (.slice (some ⟨w.heap.size,0,none⟩) 0 0) [] rfl HOWN.out _ (some ad) l c bs rfl HR.out hsm hz ?_;intro v3 w3 ho3 hb3;have HO:=Lib.hid ho3;have HB:=Lib.hid hb3;clear ho3 hb3)
  go_ret
  refine ⟨v3,rfl,?_,((Below.refl _ _).alloc (Nat.le_refl _) _).trans HB.out⟩
  simpa using HO.out
set_option maxRecDepth 100000 in
set_option maxHeartbeats 3200000 in
theorem copies_big (F : Nat → Prop) (v : Value) (l : List EvM) (w : World) (h : EvsF F w v l) (hn : l.length ≤ 1000000) (hd : ∀ e ∈ l, e.data.length ≤ 140737488355328) (hF : ∀ k, F k → k < w.heap.size) :
  Calls Tryz.prog 111 #[v] w fun e w'=>∃ v',e=.returned v'∧NewEvs w l v' w':=by
 have HD:=Lib.hid hd
 have HF:=Lib.hid hF
 have HCL:=Lib.hid (evclone_any F v l w h hn hF)
 obtain ⟨n,hnn⟩:∃ n,l.length=n:=⟨_,rfl⟩
 have HNN:=Lib.hid hnn
 rw [hnn] at hn
 clear h hd hF hnn
 go_enter Tryz.func111,Tryz.ntmps111
 go_wp2_with fail
 refine HCL.out.mono ?_
 rintro e w1 ⟨v1,rfl,ho1,hb1⟩
 obtain ⟨A1,c1,rfl,_,_⟩:=evs_slice ho1.tmp
 rw [HNN.out] at ho1 ⊢
 have HO1:=Lib.hid ho1
 have HB1:=Lib.hid hb1
 have hst:=OwnC.start (fun k=>w1.heap.size≤k∧k<w1.heap.size) ho1
 have HST:=Lib.hid hst
 clear ho1 hb1 hst
 go_wp2_with fail
 go_loopw [9] (fun i wr=>∃ k:Nat,k≤n∧i=.int .i64 k∧OwnC F (fun g=>w1.heap.size≤g∧g<wr.heap.size) k wr w.heap.size (.slice A1 n c1) l∧Below w.heap.size w wr∧w1.heap.size≤wr.heap.size) (fun i _=>n - (intOf i).toNat)
 case atStart=>exact ⟨0,Nat.zero_le _,rfl,HST.out,HB1.out,Nat.le_refl _⟩
 case round =>
  obtain ⟨k,hk,rfl,hoc,hbr,hz1⟩:=hrel
  have HOC:=Lib.hid hoc
  have HBR:=Lib.hid hbr
  have k0:(0:Int)≤(k:Int):=by omega
  by_cases hlt:k<n
  ·have k1:(k:Int)<(n:Int):=by omega
   obtain ⟨e,he⟩:∃ e,l[k]? = some e:=⟨_,List.getElem?_eq_getElem (by rw [HNN.out];exact hlt)⟩
   obtain ⟨g,c',d,hv,hBg,hgl,hby,hcell,hfz⟩:=hoc.at_ he
   obtain ⟨g2,c2,hv2,hg2⟩:∃ g2 c2,(Value.slice A1 n c1)=.slice (some ⟨g2,0,none⟩) l.length c2∧g2<w1.heap.size:=by
    obtain ⟨g2,c2,d2,h1,_,h2,_⟩:=(OwnC.start (fun _=>False) HO1.out).at_ he
    exact ⟨g2,c2,h1,h2⟩
   have hgg:g=g2:=by
    have:=hv.symm.trans hv2
    injection this with h1 _ _
    injection h1 with h1
    injection h1
   subst hgg
   injection hv with hA hnl hc
   clear hnl
   subst hA hc
   obtain ⟨dA,dc,rfl,_,_⟩:=hby.slice
   obtain ⟨dl,hdl⟩:∃ dl,e.data.length=dl:=⟨_,rfl⟩
   rw [hdl] at hcell
   have HSL:Hid (SlV wr (.slice dA dl dc) (e.data.map bv)):=by
    rw [← hdl]
    exact Rd.slv (by rw [List.length_map];exact hby)
   have HE:=Lib.hid he
   have HDL:Hid (e.data.length≤140737488355328):=HD.out e (List.mem_of_getElem? he)
   clear hoc hbr he hby hv2
   go_wp2_with fail
   refine (bclone_big _ e.data _ HSL.out (by have:=HDL.out;omega)).mono ?_
   rintro e' w2 ⟨v2,rfl,ho2,hb2⟩
   have hfz2:w2.frozen? ⟨g,k*7+6,none⟩=false:=by rw [← hfz];exact hb2.frozen (p:=⟨g,k*7+6,none⟩) hgl
   have hcl2:w2.cell? ⟨g,k*7+6,none⟩=some (.slice dA dl dc):=(hb2.cell (p:=⟨g,k*7+6,none⟩) hgl).trans hcell
   have hz2:=hb2.size
   obtain ⟨A2,c2,rfl,_,_⟩:=ho2.length
   rw [List.length_map,hdl] at ho2 ⊢
   have hby2:By (fun b=>w1.heap.size≤b∧b<w2.heap.size) w2 (.slice A2 dl c2) e.data:=by
    have h5:=(OwnV.by_ (F:=fun _=>False) ho2)
    exact h5.mono (fun b _ hb=>by
     rcases hb with hb | hb
     ·exact hb.elim
     ·exact ⟨by omega,hb.2⟩)
   have hoc2:=HOC.out.only hb2
   have hFg:¬ F g:=fun hf=>by have:=HF.out g hf;omega
   have hl9:n=l.length:=HNN.out.symm
   have hst:OwnC F (fun b=>w1.heap.size≤b∧b<w2.heap.size) (k+1) (w2.setCell ⟨g,k*7+6,none⟩ (.slice A2 dl c2)) w.heap.size (.slice (some ⟨g,0,none⟩) n c1) l:=by
    rw [hl9] at hoc2 ⊢
    exact OwnC.step hoc2 HE.out (fun b hb=>⟨hb.1,by omega⟩) hby2 hFg (fun hb=>by omega)
   have HST2:=Lib.hid hst
   have HB2:Hid (Below w.heap.size w (w2.setCell ⟨g,k*7+6,none⟩ (.slice A2 dl c2))):=(HBR.out.trans (hb2.mono HBR.out.size)).setCell (p:=⟨g,k*7+6,none⟩) hBg _
   have hzz:(w2.setCell ⟨g,k*7+6,none⟩ (.slice A2 dl c2)).heap.size=w2.heap.size:=by simp [World.setCell]
   have HZZ:=Lib.hid hzz
   clear ho2 hb2 hby2 hoc2 hFg hl9 hst hzz hdl hcell hfz
   go_wp2_with fail
   go_roundw
   case rel =>
    refine ⟨k+1,by omega,by go_num,?_,HB2.out,by rw [HZZ.out];omega⟩
    rw [HZZ.out]
    exact HST2.out
   case measure=>simp [intOf];omega
  ·obtain rfl:k=n:=by omega
   clear hoc hbr
   go_wp2_with fail
   go_ret
   refine ⟨_,rfl,?_,HBR.out⟩
   have h6:=HOC.out
   have h7:OwnC F (fun g=>w1.heap.size≤g∧g<wr.heap.size) l.length wr w.heap.size (.slice A1 k c1) l:=by rw [HNN.out];exact h6
   have h8:=h7.done (fun b hb hN=>by
    have:=(HO1.out.lt b hb).2
    omega)
   refine h8.mono (fun b _ hb=>⟨by have:=HB1.out.size;omega,hb.2,fun e=>by have:=(HO1.out.lt b e).2;omega⟩) (fun b hb hN=>hN.2.2 hb)
end Go.Proofs.YtlkolcokjmlmjaaGreat.Tx
namespace Go.Proofs.YtlkolcokjmlmjaaGreat.Wk
open Go.Shelf Go.RowKit Go.Lib Go.Sort
set_option maxRecDepth 100000 in
set_option maxHeartbeats 800000 in
theorem indexf_none (fv:Value) (w:World):Calls Tryz.prog 141 #[.slice none 0 0,fv] w fun e w'=>e=.returned (.int .i64 (-1))∧w'=w:=by
 go_enter Tryz.func141,Tryz.ntmps141
 go_wp2
 go_loopg [5,8] 0 (fun gg _ s8 wr=>s8=.int .i64 0∧wr=w)
 case atStart=>exact ⟨rfl,rfl⟩
 case round =>
  obtain ⟨rfl,rfl⟩:=hrel
  go_wp2
  go_ret
  exact ⟨rfl,rfl⟩
set_option maxRecDepth 100000 in
set_option maxHeartbeats 800000 in
theorem delete_none (fv:Value) (w:World):Calls Tryz.prog 110 #[.slice none 0 0,fv] w fun e w'=>e=.returned (.slice none 0 0)∧w'=w:=by
 go_enter Tryz.func110,Tryz.ntmps110
 go_wp2_with fail
 refine (indexf_none fv _).mono ?_
 rintro e w1 ⟨rfl,rfl⟩
 go_wp2_with fail
 go_ret
 exact ⟨rfl,rfl⟩
set_option maxRecDepth 100000 in
set_option maxHeartbeats 800000 in
theorem insertion_none (fv:Value) (w:World):Calls Tryz.prog 162 #[.slice none 0 0,.int .i64 0,.int .i64 0,fv] w fun e w'=>e=.returned (.tuple #[])∧w'=w:=by
 go_enter Tryz.func162,Tryz.ntmps162
 go_wp2
 go_loopg [8] 0 (fun gg s wr=>s=.int .i64 1∧wr=w)
 case atStart=>exact ⟨rfl,rfl⟩
 case round =>
  obtain ⟨rfl,rfl⟩:=hrel
  go_wp2
  go_end0
  exact ⟨rfl,rfl⟩
set_option maxRecDepth 100000 in
set_option maxHeartbeats 800000 in
theorem stable_none (fv:Value) (w:World):Calls Tryz.prog 143 #[.slice none 0 0,.int .i64 0,fv] w fun e w'=>e=.returned (.tuple #[])∧w'=w:=by
 go_enter Tryz.func143,Tryz.ntmps143
 go_wp2
 go_loopg [7,8] 0 (fun gg s t wr=>s=.int .i64 0∧t=.int .i64 20∧wr=w)
 case atStart=>exact ⟨rfl,rfl,rfl⟩
 case round =>
  obtain ⟨rfl,rfl,rfl⟩:=hrel
  go_wp2_with fail
  refine (insertion_none fv _).mono ?_
  rintro e w1 ⟨rfl,rfl⟩
  go_wp2
  go_loopg [6] 0 (fun gg s wr=>s=.int .i64 20∧wr=w1)
  case atStart=>exact ⟨rfl,rfl⟩
  case round =>
   obtain ⟨rfl,rfl⟩:=hrel
   go_wp2
   go_end0
   exact ⟨rfl,rfl⟩
set_option maxRecDepth 100000 in
set_option maxHeartbeats 800000 in
theorem sortStable_none (fv:Value) (w:World):Calls Tryz.prog 113 #[.slice none 0 0,fv] w fun e w'=>e=.returned (.tuple #[])∧w'=w:=by
 go_enter Tryz.func113,Tryz.ntmps113
 go_wp2_with fail
 refine (stable_none fv _).mono ?_
 rintro e w1 ⟨rfl,rfl⟩
 go_wp2
 go_end0
 exact ⟨rfl,rfl⟩
end Go.Proofs.YtlkolcokjmlmjaaGreat.Wk
set_option linter.unusedVariables false
set_option linter.unusedSimpArgs false
namespace Go.Proofs.YtlkolcokjmlmjaaGreat.Wk
open Go.Shelf Go.RowKit Go.Lib Go.Sort
theorem typesAs:TypesAs Tryz.prog 7:=⟨by kernel_rfl,by kernel_rfl,fun w=>by kernel_rfl,fun w=>by kernel_rfl,by kernel_rfl,fun w=>by kernel_rfl,fun w=>by kernel_rfl,by kernel_rfl,fun w=>by kernel_rfl,fun w=>by kernel_rfl,by kernel_rfl,fun w=>by kernel_rfl,fun w=>by kernel_rfl,fun w=>by kernel_rfl,fun w=>by kernel_rfl⟩
def toS (e:Tx.EvM) (d:Value):EvS:=match d with
 | .slice A n c=>⟨e,A,n,c⟩
 | _=>⟨e,none,0,0⟩
theorem toS_e (e:Tx.EvM) (d:Value):(toS e d).e=e:=by unfold toS;split <;> rfl
theorem toS_d {e:Tx.EvM} {d:Value} {A:Option Addr} {n c:Nat} (h:d=.slice A n c):(toS e d).d=d:=by subst h;rfl
def rowS (l:List Tx.EvM) (ds:List Value):Array EvS:=(List.zipWith toS l ds).toArray
theorem rowS_size {l:List Tx.EvM} {ds:List Value} (h:ds.length=l.length):(rowS l ds).size=l.length:=by unfold rowS;simp [h]
theorem rowS_at {l:List Tx.EvM} {ds:List Value} {i:Nat} {e:Tx.EvM} {d:Value} (he:l[i]? = some e) (hd:ds[i]? = some d):(rowS l ds)[i]! = toS e d:=by
 have h1:(rowS l ds)[i]? = some (toS e d):=by
  rw [← Array.getElem?_toList]
  show (List.zipWith toS l ds)[i]? = _
  rw [List.getElem?_zipWith,he,hd]
 obtain ⟨hi,e1⟩:=Array.getElem?_eq_some_iff.1 h1
 rw [getElem!_pos (rowS l ds) i hi]
 exact e1
theorem rowS_list (l:List Tx.EvM):∀ (ds:List Value),ds.length=l.length→(rowS l ds).toList.map EvS.e=l:=by
 induction l with
 | nil=>intro ds _;rfl
 | cons e l ih =>
  intro ds h
  cases ds with
  | nil=>simp at h
  | cons d ds =>
   have:=ih ds (by simpa using h)
   unfold rowS at this ⊢
   simp only [List.zipWith_cons_cons,List.map_cons,toS_e]
   rw [show List.map EvS.e (List.zipWith toS l ds)=l from this]
def EvIn (N:Nat→Prop) (w:World) (x:EvS):Prop:=Tx.By N w x.d x.e.data
theorem row_of_own {N : Nat → Prop} {w : World} {B g n c : Nat} {l : List Tx.EvM} (h : Tx.OwnL Tx.evK 109 N w B (.slice (some ⟨g, 0, none⟩) n c) l) :
  ∃ d:Array EvS,d.toList.map EvS.e=l∧RowK encE 7 w g 0 d∧(∀ i,i<d.size→EvIn N w d[i]!)∧B≤g∧¬ N g∧l.length≤c∧c≤maxLen:=by
 obtain ⟨⟨ds,h1,h2⟩,h3⟩:=h
 have hl:ds.length=l.length:=h2.1.trans (List.length_map _)
 have hby:∀ (i:Nat) (e:Tx.EvM) (d:Value),l[i]? = some e→ds[i]? = some d→Tx.By N w d e.data:=fun i e d he hd=>h2.2 i d (Tx.EvM.data e) hd ((List.getElem?_map (f:=fun e:Tx.EvM=>e.data) (l:=l) (i:=i)).trans (by rw [he];rfl))
 have hsl:∀ (i:Nat) (e:Tx.EvM) (d:Value),l[i]? = some e→ds[i]? = some d→(toS e d).d=d:=fun i e d he hd=>by
  obtain ⟨A,k,hv,_⟩:=(hby i e d he hd).slice
  exact toS_d hv
 rcases h1.2 with ⟨e0,_⟩ | ⟨g',cap,cur,hv,hb,hg,hlc,hcm,_,_⟩
 ·cases e0
 ·injection hv with ea eb ec
  injection ea with ea
  injection ea with ea
  subst ea ec
  refine ⟨rowS l ds,rowS_list l ds hl,⟨encE_len,encE_one,?_,(Array.getElem?_eq_some_iff.1 hg).1⟩,fun i hi=>?_,hb,h3 g rfl,hlc,hcm⟩
  ·intro j hj
   rw [size_flatK,rowS_size hl] at hj
   have hk:j / 7<l.length:=by omega
   have hkd:j / 7<ds.length:=by omega
   have he:=List.getElem?_eq_getElem hk
   have hd:=List.getElem?_eq_getElem hkd
   have hm:j % 7<7:=Nat.mod_lt _ (by decide)
   have hcell:(encE (rowS l ds)[j / 7]!)[j % 7]? = some (encE (rowS l ds)[j / 7]!)[j % 7]! := by
    rw [getElem!_pos (encE (rowS l ds)[j / 7]!) (j % 7) (by rw [encE_len];exact hm)]
    exact List.getElem?_eq_getElem _
   have e1:encE (rowS l ds)[j / 7]! = Tx.evK.cells l[j / 7] ds[j / 7]:=by
    rw [rowS_at he hd,encE_cells,toS_e,hsl _ _ _ he hd]
   rw [get_flatK _ _ _ _ (by rw [rowS_size hl];exact hj)]
   rw [e1] at hcell ⊢
   have h9:=Tx.ShC_at (K:=Tx.evK) he hd _ _ hcell
   have h10:=h1.cells (g:=g) rfl _ _ h9
   rw [Addr.add_mid,Nat.zero_add,show j / 7*Tx.evK.m+j % 7=j by show j / 7*7+j % 7=j;omega] at h10
   rw [Nat.zero_add]
   exact ⟨h10,(show Sh.Blk w g 109 cur from hg).frozen _⟩
  ·rw [rowS_size hl] at hi
   have he:=List.getElem?_eq_getElem hi
   have hd:=List.getElem?_eq_getElem (show i<ds.length by omega)
   show Tx.By N w ((rowS l ds)[i]!).d ((rowS l ds)[i]!).e.data
   rw [rowS_at he hd,toS_e,hsl _ _ _ he hd]
   exact hby _ _ _ he hd
theorem row_in {F:Nat→Prop} {w:World} {g c:Nat} {D:Array EvS} (h:HoldsK encE 7 w g 0 D) (hg:g<w.heap.size) (hF:F g) (hc:D.size≤c) (hm:c≤maxLen) (hd:∀ i,i<D.size→EvIn F w D[i]!):Tx.InL Tx.evK F w (.slice (some ⟨g,0,none⟩) D.size c) (D.toList.map EvS.e):=by
 have hll:(D.toList.map EvS.e).length=D.size:=by simp
 have hlen:(D.toList.map EvS.d).length=(D.toList.map EvS.e).length:=by simp
 have hat:∀ i,i<D.size→(D.toList.map EvS.e)[i]? = some D[i]!.e∧(D.toList.map EvS.d)[i]? = some D[i]!.d:=fun i hi=>by
  rw [List.getElem?_map,List.getElem?_map,toList_at hi]
  exact ⟨rfl,rfl⟩
 refine ⟨D.toList.map EvS.d,?_,hlen.trans (List.length_map _).symm,fun i d bs hi hb=>?_⟩
 ·have hl:=Tx.ShC_length (K:=Tx.evK) (l:=D.toList.map EvS.e) hlen
  rw [show List.length (α:=Tx.evK.α) (D.toList.map EvS.e)=D.size from hll] at hl ⊢
  refine ⟨some ⟨g,0,none⟩,c,rfl,hc,hm,?_,(fun e=>by cases e),fun _=>⟨⟨g,0,none⟩,rfl,hF,hg,fun j u hu=>?_⟩⟩
  ·exact hl
  ·have hj : j < D.size * 7 := by
    have:=(List.getElem?_eq_some_iff.1 hu).1
    rw [hl] at this
    exact this
   have hk:j / 7<D.size:=by omega
   have hmod:j % 7<7:=Nat.mod_lt _ (by decide)
   obtain ⟨a1,a2⟩:=hat _ hk
   have hcell:(encE D[j / 7]!)[j % 7]? = some (encE D[j / 7]!)[j % 7]! := by
    rw [getElem!_pos (encE D[j / 7]!) (j % 7) (by rw [encE_len];exact hmod)]
    exact List.getElem?_eq_getElem _
   have h9:=Tx.ShC_at (K:=Tx.evK) a1 a2 (j % 7) _ (by rw [← encE_cells];exact hcell)
   rw [show j / 7*Tx.evK.m+j % 7=j by show j / 7*7+j % 7=j;omega] at h9
   have h9:=Option.some.inj (hu.symm.trans h9)
   have h10:=(h j (by rw [size_flatK];exact hj)).1
   rw [get_flatK _ _ _ _ hj,Nat.zero_add] at h10
   rw [Addr.add_mid,Nat.zero_add,h10,h9]
   rfl
 ·have hi' : i < D.size := by
   have:=(List.getElem?_eq_some_iff.1 hi).1
   simpa using this
  obtain ⟨a1,a2⟩:=hat i hi'
  rw [a2] at hi
  injection hi with hi
  have hb':(D.toList.map EvS.e)[i]?.map (fun e:Tx.EvM=>e.data)=some bs:=(List.getElem?_map (f:=fun e:Tx.EvM=>e.data) (l:=D.toList.map EvS.e) (i:=i)).symm.trans hb
  rw [a1] at hb'
  injection hb' with hb'
  rw [← hi,← hb']
  exact hd i hi'
theorem EvIn.only {N M:Nat→Prop} {w w':World} {x:EvS} (h:EvIn N w x) (ho:Tx.Only M w w') (hd:∀ k,N k→¬ M k):EvIn N w' x:=Tx.By.only h ho hd
end Go.Proofs.YtlkolcokjmlmjaaGreat.Wk
set_option linter.unusedVariables false
set_option linter.unusedSimpArgs false
namespace Go.Proofs.YtlkolcokjmlmjaaGreat.Wk
open Go.Shelf Go.RowKit Go.Lib Go.Sort
def cmpE (x y:EvS):Int:=cmpI x.e.at_ y.e.at_
theorem HoldsK.of_block {w w':World} {g:Nat} {D:Array EvS} (h:HoldsK encE 7 w g 0 D) (hb:w'.heap[g]? = w.heap[g]?):HoldsK encE 7 w' g 0 D:=by
 intro j hj
 obtain ⟨h1,h2⟩:=h j hj
 refine ⟨(World.cell?_of_block (a:=⟨g,0+j,none⟩) hb).trans h1,?_⟩
 rw [← h2]
 unfold World.frozen?
 dsimp only
 rw [hb]
end Go.Proofs.YtlkolcokjmlmjaaGreat.Wk
namespace Go.Proofs.YtlkolcokjmlmjaaGreat.Tx
open Go.RowKit Go.Maps Go.Proofs.YtlkolcokjmlmjaaGreat.Sh
section
variable {F M:Nat→Prop} {w w3 w5:World} {b:Nat} {c:CSt} {x:FcV}
theorem fc_plan {g:Nat} {v:Value} {l:List EvM} (hX:FcX F w b c x) (hM:∀ k,M k↔fcM b x k) (hg:w.heap.size≤g) (hb:Below w.heap.size w w3) (h45:Only (fun k=>k=g) (w3.setCell ⟨b,4,none⟩ v) w5) (hin:InL evK (grow F w w5 M) w5 v l):FcPost F M w b { c with plan:=l } w5:=by
 have hbl:=hX.blk.lt
 have ow0:Only (fun k=>k=b) w (w3.setCell ⟨b,4,none⟩ v):=Only.set_ (M:=fun k=>k=b) (g:=b) (i:=4) (Only.of_below hb) (.inl rfl) v
 have ow:Only (fun k=>k=b) w w5:=ow0.trans h45 (fun k e=>.inr (e ▸ hg))
 have hfm:∀ k,fcM b { x with plan:=v } k↔fcM b x k:=fun k=>Iff.rfl
 have hblk:Blk w5 b 68 (fcC { c with plan:=l } { x with plan:=v }):=h45.blk ((hX.blk.below hb hbl).set_ 4 v) (fun e=>by omega)
 refine fc_fin (x':={ x with plan:=v }) hX hM (ow.more (fun k _ e=>.inl e)) (fun k hk=>.inl hk) hblk ?_ ?_ ?_ ?_ ?_ hX.apart
 ·exact hX.hereG ow hX.Fb (fun k hk e=>hX.hb (e ▸ hk))
 ·exact hX.durG ow hX.Fb (fun k hk e=>hX.db (e ▸ hk))
 ·exact hX.pendG ow hX.Fb (fun k hk e=>hX.pb (e ▸ hk)) (fun k hk=>.inr (.inr (.inr (.inl hk))))
 ·exact hin.mono (fun k _ hk => by
   rcases hk with hk | ⟨h1,h2,h3⟩
   ·exact .inl hk
   ·exact .inr ⟨h1,h2,fun hm=>h3 ((hM k).2 hm)⟩)
 ·exact hX.usersG ow hX.Fb (fun k hk e=>hX.ub (e ▸ hk)) (fun k hk=>.inr (.inr (.inr (.inr hk))))
end
theorem keep_filter (cl:Int) (D:List Wk.EvS):(D.filter (Wk.keepE cl)).map Wk.EvS.e=(D.map Wk.EvS.e).filter (fun e=>decide (cl<e.at_)):=by
 induction D with
 | nil=>rfl
 | cons x D ih =>
  have hx:Wk.keepE cl x=decide (cl<x.e.at_):=by
   unfold Wk.keepE
   by_cases h:x.e.at_≤cl
   ·rw [decide_eq_true h,decide_eq_false (by omega)];rfl
   ·rw [decide_eq_false h,decide_eq_true (by omega)];rfl
  rw [List.filter_cons,List.map_cons,List.filter_cons,hx]
  split
  ·rw [List.map_cons,ih]
  ·exact ih
end Go.Proofs.YtlkolcokjmlmjaaGreat.Tx
set_option linter.unusedVariables false
set_option linter.unusedSimpArgs false
namespace Go.Proofs.YtlkolcokjmlmjaaGreat.Tx
open Go.RowKit Go.Maps Go.Proofs.YtlkolcokjmlmjaaGreat.Sh
theorem OwnL.eq_ {K:Shape} {T:TypeId} {F:Nat→Prop} {w:World} {B:Nat} {v:Value} {l l':List K.α} (h:OwnL K T F w B v l) (e:l=l'):OwnL K T F w B v l':=e ▸ h
set_option maxRecDepth 100000 in
set_option maxHeartbeats 3200000 in
theorem plainev_any (F : Nat → Prop) (v : Value) (l : List EvM) (w : World) (h : EvsF F w v l) (hn : l.length ≤ 1000000) (hF : ∀ k, F k → k < w.heap.size) :
  Calls Tryz.prog 65 #[v] w fun e w'=>∃ v',e=.returned v'∧OwnL evK 110 F w' w.heap.size v' l∧Below w.heap.size w w':=by
 have HV:=Lib.hid h
 obtain ⟨A,c,rfl,hlc,hcm⟩:=evs_slice h
 obtain ⟨n,hnn⟩:∃ n,l.length=n:=⟨_,rfl⟩
 have HNN:=Lib.hid hnn
 have HF:=Lib.hid hF
 rw [hnn] at hn hlc HV ⊢
 unfold maxLen at hcm
 clear h hnn hF
 go_enter Tryz.func65,Tryz.ntmps65
 go_wp2
 go_loopw [3,4] (fun u i wr=>∃ k:Nat,k≤n∧i=.int .i64 k∧OwnL evK 110 F wr w.heap.size u (l.take k)∧Below w.heap.size w wr) (fun _ i _=>n - (intOf i).toNat)
 case atStart=>exact ⟨0,Nat.zero_le _,rfl,OwnL.nil_ _ _ _ _ _,Below.refl _ _⟩
 case round =>
  obtain ⟨k,hk,rfl,ho,hb⟩:=hrel
  obtain ⟨A1,tn,c1,hu3⟩:∃ A1 tn c1,u3=.slice A1 tn c1:=by
   obtain ⟨A1,c1,hu,_,_⟩:=evs_slice ho.tmp
   exact ⟨_,_,_,hu⟩
  subst hu3
  have HO:=Lib.hid ho
  have HB:=Lib.hid hb
  have k0:(0:Int)≤(k:Int):=by omega
  by_cases hlt:k<n
  ·have k1:(k:Int)<(n:Int):=by omega
   obtain ⟨e,he⟩:∃ e,l[k]? = some e:=⟨_,List.getElem?_eq_getElem (by rw [HNN.out];exact hlt)⟩
   obtain ⟨ad,dA,dc,rfl,hby,x0,x1,x2,x3,x4,x5,x6⟩:=ev_cells (show EvsTmp F wr (.slice A n c) l from HV.out.below hb) k e he
   have HX:Hid (l.take (k+1)=l.take k++[e]):=by
    obtain ⟨hl,e1⟩:=List.getElem?_eq_some_iff.1 he
    show l.take (k+1)=l.take k++[e]
    rw [List.take_succ_eq_append_getElem hl,e1]
   have HL:Hid ((l.take k).length+[e].length≤2000000):=by unfold Hid;rw [List.length_take,List.length_singleton];omega
   obtain ⟨at_,kind,mode,keep,torn,path,data⟩:=e
   dsimp only at x0 x1 x2 x3 x4 x5 x6 hby
   obtain ⟨dl,hdl⟩:∃ dl,data.length=dl:=⟨_,rfl⟩
   rw [hdl] at x6 hby
   have hwa:Below wr.heap.size wr ((wr.alloc (.cells #[.int .i64 at_,.int .i64 kind,.int .i64 mode,.int .i64 keep,.int .i64 torn,.string (str path),.slice dA dl dc] 109)).alloc (.cells #[.int .i64 at_,.int .i64 kind,.int .i64 mode,.int .i64 keep,.int .i64 torn,.string (str path),.slice dA dl dc] 110)):=((Below.refl _ _).alloc (Nat.le_refl _) _).alloc (by simp) _
   have HWA:=Lib.hid hwa
   have HOA:=Lib.hid ((ho.alloc (.cells #[.int .i64 at_,.int .i64 kind,.int .i64 mode,.int .i64 keep,.int .i64 torn,.string (str path),.slice dA dl dc] 109)).alloc (.cells #[.int .i64 at_,.int .i64 kind,.int .i64 mode,.int .i64 keep,.int .i64 torn,.string (str path),.slice dA dl dc] 110))
   have HTA:=Lib.hid (TmpL.one (K:=evK) (F:=F) (a:=(⟨at_,kind,mode,keep,torn,path,data⟩:EvM)) (d:=.slice dA dl dc) (Blk.new (wr.alloc (.cells #[.int .i64 at_,.int .i64 kind,.int .i64 mode,.int .i64 keep,.int .i64 torn,.string (str path),.slice dA dl dc] 109)) 110 #[.int .i64 at_,.int .i64 kind,.int .i64 mode,.int .i64 keep,.int .i64 torn,.string (str path),.slice dA dl dc]) rfl (by rw [← hdl] at hby ⊢;exact hby.only (Only.of_below (M:=fun _=>False) (by rw [hdl];exact hwa)) (fun _ _=>id)))
   have HZ:Hid (w.heap.size≤((wr.alloc (.cells #[.int .i64 at_,.int .i64 kind,.int .i64 mode,.int .i64 keep,.int .i64 torn,.string (str path),.slice dA dl dc] 109)).alloc (.cells #[.int .i64 at_,.int .i64 kind,.int .i64 mode,.int .i64 keep,.int .i64 torn,.string (str path),.slice dA dl dc] 110)).heap.size):=Nat.le_trans hb.size hwa.size
   have HFZ:Hid (∀ k,F k→k<((wr.alloc (.cells #[.int .i64 at_,.int .i64 kind,.int .i64 mode,.int .i64 keep,.int .i64 torn,.string (str path),.slice dA dl dc] 109)).alloc (.cells #[.int .i64 at_,.int .i64 kind,.int .i64 mode,.int .i64 keep,.int .i64 torn,.string (str path),.slice dA dl dc] 110)).heap.size):=fun k hk=>Nat.lt_of_lt_of_le (HF.out k hk) HZ.out
   have HLT:Hid (∀ q,(Value.slice A1 tn c1).ownBlock=some q→w.heap.size≤q):=fun q hq=>(ho.lt q hq).1
   clear hwa ho hb he hby hdl
   go_wp2_with (at_builtin;refine list_appendL typed_ev (v:=.slice A1 tn c1) (ex:=.slice (some ⟨wr.heap.size+1,0,none⟩) 1 1) (l2:=[(⟨at_,kind,mode,keep,torn,path,data⟩:EvM)]) rfl (.tmp 16) (.tmp 32) rfl (by exact HOA.out) (by have h9:=HTA.out;simpa using h9) (by rfl) (by rfl) HL.out (by exact HZ.out) (by exact HFZ.out) ?_;intro v5 w5 ho5 hg5 hk5;have HO5:=Lib.hid ho5;have HG5:=Lib.hid hg5;clear ho5 hg5 hk5)
   go_roundw
   case rel =>
    refine ⟨k+1,by omega,by go_num,OwnL.eq_ HO5.out HX.out.symm,?_⟩
    exact (HB.out.trans (HWA.out.mono HB.out.size)).grown HG5.out (by have:=HZ.out;simpa using this) (fun j hj=>HLT.out j hj)
   case measure=>simp [intOf];omega
  ·obtain rfl:k=n:=by omega
   have HFI:Hid (OwnL evK 110 F wr w.heap.size (.slice A1 tn c1) l):=OwnL.eq_ HO.out (List.take_of_length_le (Nat.le_of_eq HNN.out))
   clear ho hb
   go_wp2_with fail
   go_ret
   exact ⟨_,rfl,HFI.out,HB.out⟩
end Go.Proofs.YtlkolcokjmlmjaaGreat.Tx
