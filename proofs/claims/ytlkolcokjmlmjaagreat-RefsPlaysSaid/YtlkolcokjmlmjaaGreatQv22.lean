/- Texts put together: VGs15, VGs16, VGs17, VGs18. -/
import Derived.Test.YtlkolcokjmlmjaaGreatQv21
import Derived.Test.YtlkolcokjmlmjaaGreatQv18
namespace Go.Proofs.YtlkolcokjmlmjaaGreat.Tx
open Go.RowKit Go.Maps Go.Proofs.YtlkolcokjmlmjaaGreat.Sh
set_option maxRecDepth 100000 in
set_option maxHeartbeats 1600000 in
theorem evclone_any (F:Nat→Prop) (v:Value) (l:List EvM) (w:World) (h:EvsF F w v l) (hn:l.length≤1000000) (hF:∀ k,F k→k<w.heap.size):Calls Tryz.prog 142 #[v] w fun e w'=>∃ v',e=.returned v'∧OwnL evK 109 F w' w.heap.size v' l∧Below w.heap.size w w':=by
 obtain ⟨A,c,rfl,hlc,hcm⟩:=evs_slice h
 have H:=Lib.hid h
 obtain ⟨n,hnn⟩:∃ n,l.length=n:=⟨_,rfl⟩
 have HNN:=Lib.hid hnn
 have hnil:=fun (w:World)=>Lib.run_eql_slice_nil (P:=Tryz.prog) w 33 109 A n c 0 0 Tryz.underlying33
 rw [hnn] at hn ⊢
 rcases A with _ | ad
 ·have hl0 : l = [] := by
   cases l with
   | nil=>rfl
   | cons x r =>
    obtain ⟨ad,d,e,_⟩:=TmpL.at_ h 0 x rfl
    cases e
  subst hl0
  simp only [List.length_nil] at hnn
  subst hnn
  simp only [Option.isNone] at hnil
  clear h hlc hcm
  go_enter Tryz.func142,Tryz.ntmps142
  go_wp2_with fail
  go_ret
  exact ⟨_,rfl,OwnL.nil_ _ _ _ _ _,Below.refl _ _⟩
 ·simp only [Option.isNone] at hnil
  have hown:OwnL evK 109 F (w.alloc (.cells #[] 109)) w.heap.size (.slice (some ⟨w.heap.size,0,none⟩) 0 0) []:=OwnL.empty (Blk.new w 109 #[]) (Nat.le_refl _) (fun hk=>by have:=hF _ hk;omega)
  have htm:EvsF F (w.alloc (.cells #[] 109)) (.slice (some ad) n c) l:=by
   have h1:=TmpL.alloc h (.cells #[] 109)
   rw [hnn] at h1
   exact h1
  have HOWN:=Lib.hid hown
  have HTM:=Lib.hid htm
  have s1:Hid (([]:List EvM).length+l.length≤2000000):=by unfold Hid;simp;omega
  have HFW:Hid (∀ k,F k→k<(w.alloc (.cells #[] 109)).heap.size):=fun k hk=>by have:=hF k hk;simp;omega
  have HZ:Hid (w.heap.size≤(w.alloc (.cells #[] 109)).heap.size):=by unfold Hid;simp
  clear h hlc hcm hown htm hF hnn
  go_enter Tryz.func142,Tryz.ntmps142
  go_wp2_with (at_builtin;refine list_appendL typed_fe (v:=.slice (some ⟨w.heap.size,0,none⟩) 0 0) (l:=[]) (ex:=.slice (some ad) n c) (l2:=l) rfl (.tmp 5) (.tmp 6) rfl (by exact HOWN.out) (by exact HTM.out) rfl rfl (by exact s1.out) (by exact HZ.out) (by exact HFW.out) ?_;intro v3 w3 ho3 hg3 hk3;have HO:=Lib.hid ho3;have HG:=Lib.hid hg3;clear ho3 hg3 hk3)
  go_ret
  exact ⟨v3,rfl,HO.out,((Below.refl _ _).alloc (Nat.le_refl _) _).grown HG.out (by simp) (fun j hj=>by cases hj;exact Nat.le_refl _)⟩
abbrev ChsF (F:Nat→Prop) (w:World) (v:Value) (l:List ChM):Prop:=TmpL chK F w v l
theorem own_setRow {w:World} {B T m n c g j:Nat} {xs:List Value} (h:w.ownsRow B T m (.slice (some ⟨g,0,none⟩) n c) n xs) (u:Value):(w.setCell ⟨g,j,none⟩ u).ownsRow B T m (.slice (some ⟨g,0,none⟩) n c) n (xs.set j u):=by
 obtain ⟨g1,g2⟩:=h
 refine ⟨by rw [List.length_set];exact g1,?_⟩
 rcases g2 with ⟨e,_⟩ | ⟨g',cap,cur,e,hb,hg,h4,h5,h6,h7⟩
 ·cases e
 ·injection e with ea eb ec
  injection ea with ea
  injection ea with ea
  subst ea ec
  right
  refine ⟨g,c,cur.setIfInBounds j u,rfl,hb,(show Blk w g T cur from hg).set_ j u,h4,h5,by rw [Array.size_setIfInBounds];exact h6,?_⟩
  rw [Array.toList_setIfInBounds,List.take_set,h7]
theorem set_app7 (a b:List Value) (j:Nat) (d:Value) (h:a.length=7):(a++b).set (7+j) d=a++b.set j d:=by
 rw [List.set_append]
 rw [if_neg (by omega),h,Nat.add_sub_cancel_left]
theorem evC_set {l:List EvM}:∀ {ds:List Value} {i:Nat} {d:Value},ds.length=l.length→i<l.length→ShC evK l (ds.set i d)=(ShC evK l ds).set (i*7+6) d:=by
 induction l with
 | nil=>intro ds i d _ hi;simp at hi
 | cons e l ih =>
  intro ds i d hd hi
  cases ds with
  | nil=>simp at hd
  | cons d0 ds =>
   have hd':ds.length=l.length:=by simpa using hd
   cases i with
   | zero=>rfl
   | succ i =>
    have h1:=ih (ds:=ds) (i:=i) (d:=d) hd' (by simpa using hi)
    have h2:=set_app7 (evK.cells e d0) (ShC evK l ds) (i*7+6) d rfl
    have h3:(i+1)*7+6=7+(i*7+6):=by omega
    rw [h3]
    refine Eq.trans ?_ h2.symm
    rw [← h1]
    rfl
end Go.Proofs.YtlkolcokjmlmjaaGreat.Tx
namespace Go.Proofs.YtlkolcokjmlmjaaGreat.Tx
open Go.RowKit Go.Maps Go.Proofs.YtlkolcokjmlmjaaGreat.Sh
def OwnC (F N:Nat→Prop) (k:Nat) (w:World) (B:Nat) (v:Value) (l:List EvM):Prop :=
 ∃ ds,w.ownsRow B 109 7 v l.length (ShC evK l ds)∧ds.length=l.length∧∀ (i:Nat) (d:Value) (e:EvM),ds[i]?=some d→l[i]?=some e→By (fun g=>if i<k then N g else F g) w d e.data
theorem OwnC.start {F:Nat→Prop} {w:World} {B:Nat} {v:Value} {l:List EvM} (N:Nat→Prop) (h:OwnL evK 109 F w B v l):OwnC F N 0 w B v l:=by
 obtain ⟨⟨ds,h1,h2⟩,_⟩:=h
 refine ⟨ds,h1,h2.1.trans (List.length_map _),fun i d e hd he=>?_⟩
 have hb:(l.map evK.data)[i]?=some e.data:=(List.getElem?_map (f:=fun e:EvM=>e.data) (l:=l) (i:=i)).trans (by rw [he];rfl)
 exact (h2.2 i d e.data hd hb).mono (fun k _ hk=>by rw [if_neg (by omega)];exact hk)
theorem OwnC.only {F N:Nat→Prop} {k:Nat} {w w':World} {B:Nat} {v:Value} {l:List EvM} (h:OwnC F N k w B v l) (hb:Below w.heap.size w w'):OwnC F N k w' B v l:=by
 obtain ⟨ds,h1,h2,h3⟩:=h
 refine ⟨ds,?_,h2,fun i d e hd he=>(h3 i d e hd he).only (Only.of_below (M:=fun _=>False) hb) (fun _ _=>id)⟩
 refine ⟨h1.1,h1.2.imp id fun ⟨g,cap,cur,a1,a2,a3,a4⟩=>⟨g,cap,cur,a1,a2,?_,a4⟩⟩
 exact (hb.block g (Array.getElem?_eq_some_iff.1 a3).1).trans a3
theorem OwnC.at_ {F N : Nat → Prop} {k : Nat} {w : World} {B : Nat} {v : Value} {l : List EvM} (h : OwnC F N k w B v l) {i : Nat} {e : EvM} (hi : l[i]? = some e) :
  ∃ (g c:Nat) (d:Value),v=.slice (some ⟨g,0,none⟩) l.length c∧B≤g∧g<w.heap.size∧By (fun b=>if i<k then N b else F b) w d e.data∧w.cell? ⟨g,i*7+6,none⟩=some d∧w.frozen? ⟨g,i*7+6,none⟩=false:=by
 obtain ⟨ds,h1,h2,h3⟩:=h
 have hil:=(List.getElem?_eq_some_iff.1 hi).1
 obtain ⟨d,hd⟩:∃ d,ds[i]?=some d:=⟨_,List.getElem?_eq_getElem (by rw [h2];exact hil)⟩
 rcases h1.2 with ⟨_,e0⟩ | ⟨g,cap,cur,hv,hb,hg,_⟩
 ·omega
 ·refine ⟨g,cap,d,hv,hb,(Array.getElem?_eq_some_iff.1 hg).1,h3 i d e hd hi,?_,(show Blk w g 109 cur from hg).frozen _⟩
  have h4:=h1.cells (g:=g) (by rw [hv];rfl) _ _ (ShC_at (K:=evK) (k:=i) hi hd 6 d rfl)
  rw [Addr.add_mid,Nat.zero_add] at h4
  exact h4
theorem OwnC.step {F N N':Nat→Prop} {k:Nat} {w:World} {B g c:Nat} {l:List EvM} {e:EvM} {d:Value} (h:OwnC F N k w B (.slice (some ⟨g,0,none⟩) l.length c) l) (hk:l[k]?=some e) (hN:∀ b,N b→N' b) (hd:By N' w d e.data) (hFg:¬ F g) (hNg:¬ N' g):OwnC F N' (k+1) (w.setCell ⟨g,k*7+6,none⟩ d) B (.slice (some ⟨g,0,none⟩) l.length c) l:=by
 obtain ⟨ds,h1,h2,h3⟩:=h
 have hkl:=(List.getElem?_eq_some_iff.1 hk).1
 have ow:Only (fun b=>b=g) w (w.setCell ⟨g,k*7+6,none⟩ d):=Only.set_ (M:=fun b=>b=g) (g:=g) (i:=k*7+6) (Only.refl _ w) (.inl rfl) d
 refine ⟨ds.set k d,?_,by rw [List.length_set];exact h2,fun i d' e' hd' he'=>?_⟩
 ·rw [evC_set h2 hkl]
  exact own_setRow h1 d
 ·by_cases hik:k=i
  ·subst hik
   rw [List.getElem?_set_self (by rw [h2];exact hkl)] at hd'
   injection hd' with hd'
   rw [hk] at he'
   injection he' with he'
   rw [← hd',← he']
   exact (hd.only ow (fun b hb e=>hNg (e ▸ hb))).mono (fun b _ hb=>by rw [if_pos (by omega)];exact hb)
  ·rw [List.getElem?_set_ne hik] at hd'
   have h4:=h3 i d' e' hd' he'
   by_cases hlt:i<k
   ·have h5:By N w d' e'.data:=h4.mono (fun b _ hb=>by rw [if_pos hlt] at hb;exact hb)
    exact ((h5.mono (fun b _ hb=>hN b hb)).only ow (fun b hb e=>hNg (e ▸ hb))).mono (fun b _ hb=>by rw [if_pos (by omega)];exact hb)
   ·have h5:By F w d' e'.data:=h4.mono (fun b _ hb=>by rw [if_neg hlt] at hb;exact hb)
    exact (h5.only ow (fun b hb e=>hFg (e ▸ hb))).mono (fun b _ hb=>by rw [if_neg (by omega)];exact hb)
theorem OwnC.done {F N:Nat→Prop} {w:World} {B:Nat} {v:Value} {l:List EvM} (h:OwnC F N l.length w B v l) (hv:∀ k,v.ownBlock=some k→¬ N k):OwnL evK 109 N w B v l:=by
 obtain ⟨ds,h1,h2,h3⟩:=h
 refine ⟨⟨ds,h1,h2.trans (List.length_map _).symm,fun i d bs hd hb=>?_⟩,hv⟩
 have hb':l[i]?.map (fun e:EvM=>e.data)=some bs:=(List.getElem?_map (f:=fun e:EvM=>e.data) (l:=l) (i:=i)).symm.trans hb
 cases he:l[i]? with
 | none=>rw [he] at hb';cases hb'
 | some e =>
  rw [he] at hb'
  injection hb' with hb'
  have hil:=(List.getElem?_eq_some_iff.1 he).1
  rw [← hb']
  exact (h3 i d e hd he).mono (fun b _ hb=>by rw [if_pos hil] at hb;exact hb)
def NewEvs (w:World) (l:List EvM) (v:Value) (w':World):Prop:=OwnL evK 109 (fun k=>w.heap.size≤k∧k<w'.heap.size∧v.ownBlock≠some k) w' w.heap.size v l∧Below w.heap.size w w'
set_option maxRecDepth 100000 in
set_option maxHeartbeats 3200000 in
theorem copies_any (F : Nat → Prop) (v : Value) (l : List EvM) (w : World) (h : EvsF F w v l) (hn : l.length ≤ 1000000) (hd : ∀ e ∈ l, e.data.length ≤ 1000000) (hF : ∀ k, F k → k < w.heap.size) :
  Calls Tryz.prog 111 #[v] w fun e w'=>∃ v',e=.returned v'∧NewEvs w l v' w':=by
 have HD:=Lib.hid hd
 have HF:=Lib.hid hF
 have HCL:=Lib.hid (evclone_any F v l w h hn hF)
 obtain ⟨n,hnn⟩:∃ n,l.length=n:=⟨_,rfl⟩
 have HNN:=Lib.hid hnn
 rw [hnn] at hn
 clear h hd hF hnn
 go_enter Tryz.func111,Tryz.ntmps111
 go_wp2_with fail
 refine HCL.out.mono ?_
 rintro e w1 ⟨v1,rfl,ho1,hb1⟩
 obtain ⟨A1,c1,rfl,_,_⟩:=evs_slice ho1.tmp
 rw [HNN.out] at ho1 ⊢
 have HO1:=Lib.hid ho1
 have HB1:=Lib.hid hb1
 have hst:=OwnC.start (fun k=>w1.heap.size≤k∧k<w1.heap.size) ho1
 have HST:=Lib.hid hst
 clear ho1 hb1 hst
 go_wp2_with fail
 go_loopw [9] (fun i wr=>∃ k:Nat,k≤n∧i=.int .i64 k∧OwnC F (fun g=>w1.heap.size≤g∧g<wr.heap.size) k wr w.heap.size (.slice A1 n c1) l∧Below w.heap.size w wr∧w1.heap.size≤wr.heap.size) (fun i _=>n - (intOf i).toNat)
 case atStart=>exact ⟨0,Nat.zero_le _,rfl,HST.out,HB1.out,Nat.le_refl _⟩
 case round =>
  obtain ⟨k,hk,rfl,hoc,hbr,hz1⟩:=hrel
  have HOC:=Lib.hid hoc
  have HBR:=Lib.hid hbr
  have k0:(0:Int)≤(k:Int):=by omega
  by_cases hlt:k<n
  ·have k1:(k:Int)<(n:Int):=by omega
   obtain ⟨e,he⟩:∃ e,l[k]?=some e:=⟨_,List.getElem?_eq_getElem (by rw [HNN.out];exact hlt)⟩
   obtain ⟨g,c',d,hv,hBg,hgl,hby,hcell,hfz⟩:=hoc.at_ he
   obtain ⟨g2,c2,hv2,hg2⟩:∃ g2 c2,(Value.slice A1 n c1)=.slice (some ⟨g2,0,none⟩) l.length c2∧g2<w1.heap.size:=by
    obtain ⟨g2,c2,d2,h1,_,h2,_⟩:=(OwnC.start (fun _=>False) HO1.out).at_ he
    exact ⟨g2,c2,h1,h2⟩
   have hgg:g=g2:=by
    have:=hv.symm.trans hv2
    injection this with h1 _ _
    injection h1 with h1
    injection h1
   subst hgg
   injection hv with hA hnl hc
   clear hnl
   subst hA hc
   obtain ⟨dA,dc,rfl,_,_⟩:=hby.slice
   obtain ⟨dl,hdl⟩:∃ dl,e.data.length=dl:=⟨_,rfl⟩
   rw [hdl] at hcell
   have HSL:Hid (SlV wr (.slice dA dl dc) (e.data.map bv)):=by
    rw [← hdl]
    exact Rd.slv (by rw [List.length_map];exact hby)
   have HE:=Lib.hid he
   have HDL:Hid (e.data.length≤1000000):=HD.out e (List.mem_of_getElem? he)
   clear hoc hbr he hby hv2
   go_wp2_with fail
   refine (bclone_any _ e.data _ HSL.out (by have:=HDL.out;omega)).mono ?_
   rintro e' w2 ⟨v2,rfl,ho2,hb2⟩
   have hfz2:w2.frozen? ⟨g,k*7+6,none⟩=false:=by rw [← hfz];exact hb2.frozen (p:=⟨g,k*7+6,none⟩) hgl
   have hcl2:w2.cell? ⟨g,k*7+6,none⟩=some (.slice dA dl dc):=(hb2.cell (p:=⟨g,k*7+6,none⟩) hgl).trans hcell
   have hz2:=hb2.size
   obtain ⟨A2,c2,rfl,_,_⟩:=ho2.length
   rw [List.length_map,hdl] at ho2 ⊢
   have hby2:By (fun b=>w1.heap.size≤b∧b<w2.heap.size) w2 (.slice A2 dl c2) e.data:=by
    have h5:=(OwnV.by_ (F:=fun _=>False) ho2)
    exact h5.mono (fun b _ hb=>by
     rcases hb with hb | hb
     ·exact hb.elim
     ·exact ⟨by omega,hb.2⟩)
   have hoc2:=HOC.out.only hb2
   have hFg:¬ F g:=fun hf=>by have:=HF.out g hf;omega
   have hl9:n=l.length:=HNN.out.symm
   have hst:OwnC F (fun b=>w1.heap.size≤b∧b<w2.heap.size) (k+1) (w2.setCell ⟨g,k*7+6,none⟩ (.slice A2 dl c2)) w.heap.size (.slice (some ⟨g,0,none⟩) n c1) l:=by
    rw [hl9] at hoc2 ⊢
    exact OwnC.step hoc2 HE.out (fun b hb=>⟨hb.1,by omega⟩) hby2 hFg (fun hb=>by omega)
   have HST2:=Lib.hid hst
   have HB2:Hid (Below w.heap.size w (w2.setCell ⟨g,k*7+6,none⟩ (.slice A2 dl c2))):=(HBR.out.trans (hb2.mono HBR.out.size)).setCell (p:=⟨g,k*7+6,none⟩) hBg _
   have hzz:(w2.setCell ⟨g,k*7+6,none⟩ (.slice A2 dl c2)).heap.size=w2.heap.size:=by simp [World.setCell]
   have HZZ:=Lib.hid hzz
   clear ho2 hb2 hby2 hoc2 hFg hl9 hst hzz hdl hcell hfz
   go_wp2_with fail
   go_roundw
   case rel =>
    refine ⟨k+1,by omega,by go_num,?_,HB2.out,by rw [HZZ.out];omega⟩
    rw [HZZ.out]
    exact HST2.out
   case measure=>simp [intOf];omega
  ·obtain rfl:k=n:=by omega
   clear hoc hbr
   go_wp2_with fail
   go_ret
   refine ⟨_,rfl,?_,HBR.out⟩
   have h6:=HOC.out
   have h7:OwnC F (fun g=>w1.heap.size≤g∧g<wr.heap.size) l.length wr w.heap.size (.slice A1 k c1) l:=by rw [HNN.out];exact h6
   have h8:=h7.done (fun b hb hN=>by
    have:=(HO1.out.lt b hb).2
    omega)
   refine h8.mono (fun b _ hb=>⟨by have:=HB1.out.size;omega,hb.2,fun e=>by have:=(HO1.out.lt b e).2;omega⟩) (fun b hb hN=>hN.2.2 hb)
end Go.Proofs.YtlkolcokjmlmjaaGreat.Tx
namespace Go.Proofs.YtlkolcokjmlmjaaGreat.Tx
open Go.RowKit Go.Maps Go.Proofs.YtlkolcokjmlmjaaGreat.Sh
set_option maxRecDepth 100000 in
theorem user_any {F M:Nat→Prop} {b:Nat} {c:CSt} {w:World} (h:FcAt F w b c M) (hn:c.users.length≤1000000) (hd:∀ e∈c.users,e.data.length≤1000000):Calls Tryz.prog 81 #[.pointer (some ⟨b,0,none⟩)] w fun e w'=>∃ v,e=.returned v∧NewEvs w c.users v w':=by
 obtain ⟨x,hX,_⟩:=h
 have c5:w.cell? ⟨b,5,none⟩=some x.users:=hX.blk.cell 5
 have HC:=Lib.hid (copies_any F x.users c.users w hX.users.tmp hn hd hX.low)
 clear hX
 go_enter Tryz.func81,Tryz.ntmps81
 go_wp2_with fail
 refine HC.out.mono ?_
 rintro e w1 ⟨v,rfl,hn1⟩
 have HN1:=Lib.hid hn1
 clear hn1
 go_wp2_with fail
 go_ret
 exact ⟨v,rfl,HN1.out⟩
def CopyPost (F:Nat→Prop) (w:World) (c:CSt) (e:Ending) (w':World):Prop:=∃ b M,e=.returned (.pointer (some ⟨b,0,none⟩))∧FcAt (grow F w w' M) w' b c M∧Below w.heap.size w w'∧∀ k,M k→w.heap.size≤k
end Go.Proofs.YtlkolcokjmlmjaaGreat.Tx
namespace Go.Proofs.YtlkolcokjmlmjaaGreat.Tx
open Go.RowKit Go.Maps Go.Proofs.YtlkolcokjmlmjaaGreat.Sh
def redE (st:CSt) (p:List UInt8):Int:=if bgE st=0 then (if pathB p=false then 6 else if peekB (bgC st).c.here p=true then 0 else 7) else bgE st
def redF (st:CSt) (p:List UInt8):FileM:=if redE st p=0 then peekF (bgC st).c.here p else ⟨0,[],0⟩
def RedPost (F M:Nat→Prop) (w:World) (b:Nat) (s:CSt) (n:Int) (f:FileM) (e:Ending) (w':World):Prop :=
 ∃ u v M',e=.returned (.tuple #[u,.int .i64 n])∧u=.agg #[.int .i64 f.mode,v,.int .i64 f.time]∧FcAt (grow F w w' M') w' b s M'∧Only M w w'∧(∀ k,M' k→M k∨w.heap.size≤k)∧By (grow F w w' M') w' v f.data
theorem red_fin {F M M1 : Nat → Prop} {w wa w1 w' : World} {b : Nat} {s : CSt} (hwa : Below w.heap.size w wa) (hz : w.heap.size < wa.heap.size) (hat : FcAt (grow F wa w1 M1) w1 b s M1) (hon : Only M wa w1) (hsub : ∀ k, M1 k → M k ∨ wa.heap.size ≤ k)
  (hr:Only (fun k=>k=w.heap.size) w1 w') (hF:∀ k,F k→k<w.heap.size) (hM:∀ k,M k→k<w.heap.size) :
  FcAt (grow F w w' M1) w' b s M1∧Only M w w'∧∀ k,M1 k→M k∨w.heap.size≤k:=by
 obtain ⟨x,hX,hX2⟩:=hat
 have hz1:=hon.size
 have hz2:=hr.size
 have hne:∀ k,M1 k→¬ (k=w.heap.size):=fun k hk e=>by
  rcases hsub k hk with h | h
  ·have:=hM k h;omega
  ·omega
 have h1:FcX (grow F wa w1 M1) w' b s x:=hX.only hr (fun k hk e=>by
  rcases hk with hk | ⟨g1,_,_⟩
  ·have:=hF k hk;omega
  ·omega) (fun k hk=>hne k ((hX2 k).2 hk))
 refine ⟨⟨x,h1.mono (F':=grow F w w' M1) (fun k hk=>?_) (fun k hk hm=>?_) (fun k hk=>?_),hX2⟩,((Only.of_below hwa).trans hon (fun k hk=>.inl hk)).trans hr (fun k hk=>.inr (by rw [hk];exact Nat.le_refl _)),fun k hk=>(hsub k hk).imp id (fun h=>by omega)⟩
 ·rcases hk with hk | ⟨g1,g2,g3⟩
  ·exact .inl hk
  ·exact .inr ⟨by omega,by omega,g3⟩
 ·rcases hk with hk | ⟨_,_,g3⟩
  ·exact hX.self k (.inl hk) hm
  ·exact g3 ((hX2 k).2 hm)
 ·rcases hk with hk | ⟨_,g2,_⟩
  ·have:=hF k hk;omega
  ·exact g2
set_option maxRecDepth 100000 in
set_option maxHeartbeats 3200000 in
theorem read_any (F M : Nat → Prop) (b : Nat) (st : CSt) (N : Nat) (p : List UInt8) (w : World) (h : FcAt F w b st M) (hr : CReady st N) (hp : p.length ≤ 1000000) :
  Calls Tryz.prog 52 #[.pointer (some ⟨b,0,none⟩),.string (str p)] w (RedPost F M w b (bgC st).c (redE st p) (redF st p)):=by
 have HR:=Lib.hid hr
 have HS:=Lib.hid hr.small
 have HLF:=Lib.hid h.low
 have HLM:=Lib.hid h.lt
 obtain ⟨wa,hwa⟩:∃ wa,wa=w.alloc (.cells #[.int .i64 0,.slice none 0 0,.int .i64 0] 91):=⟨_,rfl⟩
 have hBa:Below w.heap.size w wa:=by rw [hwa];exact (Below.refl _ _).alloc (Nat.le_refl _) _
 have hba:Blk wa w.heap.size 91 #[.int .i64 0,.slice none 0 0,.int .i64 0]:=by rw [hwa];exact Blk.new _ _ _
 have HZA:Hid (w.heap.size<wa.heap.size):=hba.lt
 have HBA:=Lib.hid hBa
 have HBLK:=Lib.hid hba
 have H:=Lib.hid (h.below hBa)
 clear h hr hBa hba
 obtain ⟨be,hbe⟩:∃ be,bgE st=be:=⟨_,rfl⟩
 have HBE:=Lib.hid hbe
 obtain ⟨tp,htp⟩:∃ t,pathB p=t:=⟨_,rfl⟩
 have HTP:=Lib.hid htp
 clear hbe htp
 go_enter Tryz.func52,Tryz.ntmps52
 go_upto_region 1 with (fail)
 rw [← hwa]
 clear hwa
 go_wp2_with fail
 refine (begin_any F M b st N _ H.out HR.out.fits HR.out.big HR.out.calls HR.out.paths).mono ?_
 rintro e w1 ⟨rfl,hpost⟩
 rw [HBE.out]
 obtain ⟨s,hs⟩:∃ s,(bgC st).c=s:=⟨_,rfl⟩
 have HSS:=Lib.hid hs
 rw [hs] at hpost
 obtain ⟨M1,hat,hon,hsub⟩:=hpost
 have HSM:Hid (CSmall s):=by rw [← hs];exact HS.out
 have HAT:=Lib.hid hat
 have HON:=Lib.hid hon
 have HSUB:=Lib.hid hsub
 have hb1:Blk w1 w.heap.size 91 #[.int .i64 0,.slice none 0 0,.int .i64 0]:=hon.blk HBLK.out (fun hm=>by have:=HLM.out _ hm;omega)
 have HB1:=Lib.hid hb1
 have hwl:w.heap.size<w1.heap.size:=hb1.lt
 clear hat hon hsub hs hb1
 obtain ⟨fu,hfu⟩:∃ fu,(bgC st).room=fu:=⟨_,rfl⟩
 rw [hfu]
 clear hfu
 by_cases hb0:be=0
 ·subst hb0
  go_wp2_with fail
  refine (npath_any p _ hp).mono ?_
  rintro e w2 ⟨rfl,hb2⟩
  rw [HTP.out]
  have HB2:=Lib.hid hb2
  have HK2:=Lib.hid (HB1.out.below hb2 hwl)
  have hz2:=hb2.size
  clear hb2
  cases tp with
  | false =>
   have HE:Hid (redE st p=6∧redF st p=⟨0,[],0⟩):=by
    have h1:redE st p=6:=by unfold redE;rw [if_pos HBE.out,if_pos HTP.out]
    exact ⟨h1,by unfold redF;rw [h1,if_neg (by decide)]⟩
   have a0:w2.cell? ⟨w.heap.size,0,none⟩=some (.int .i64 0):=HK2.out.cell 0
   have a1:w2.cell? ⟨w.heap.size,1,none⟩=some (.slice none 0 0):=HK2.out.cell 1
   have a2:w2.cell? ⟨w.heap.size,2,none⟩=some (.int .i64 0):=HK2.out.cell 2
   have f0:w2.frozen? ⟨w.heap.size,0,none⟩=false:=HK2.out.frozen 0
   have f1:w2.frozen? ⟨w.heap.size,1,none⟩=false:=HK2.out.frozen 1
   have f2:w2.frozen? ⟨w.heap.size,2,none⟩=false:=HK2.out.frozen 2
   have hs3:=set3 HK2.out (.int .i64 0) (.slice none 0 0) (.int .i64 0)
   have HBC:=Lib.hid hs3.1
   have HON3:=Lib.hid ((Only.of_below HB2.out).trans hs3.2 (fun _ h=>.inl h))
   clear hs3
   go_wp2_with fail
   generalize (((w2.setCell ⟨w.heap.size,0,none⟩ (.int .i64 0)).setCell ⟨w.heap.size,1,none⟩ (.slice none 0 0)).setCell ⟨w.heap.size,2,none⟩ (.int .i64 0))=wc at *
   have q0:wc.cell? ⟨w.heap.size,0,none⟩=some (.int .i64 0):=HBC.out.cell 0
   have q1:wc.cell? ⟨w.heap.size,1,none⟩=some (.slice none 0 0):=HBC.out.cell 1
   have q2:wc.cell? ⟨w.heap.size,2,none⟩=some (.int .i64 0):=HBC.out.cell 2
   refine bodyPost_ret (v:=.tuple #[.agg #[(.int .i64 0),(.slice none 0 0),(.int .i64 0)],.int .i64 6]) (by simp [results,Tryz.results52,go_sem,q0,q1,q2]) rfl ?_
   have hfin:=red_fin HBA.out HZA.out HAT.out HON.out HSUB.out HON3.out HLF.out HLM.out
   refine ⟨_,_,M1,by rw [HE.out.1],by rw [HE.out.2],by rw [HSS.out];exact hfin.1,hfin.2.1,hfin.2.2,?_⟩
   rw [HE.out.2]
   exact By.nil_ _ _
  | true =>
   go_wp2_with fail
   refine (peek_any p (HAT.out.below HB2.out) HSM.out hp).mono ?_
   rintro e w3 ⟨u3,rfl,hfv,hb3⟩
   obtain ⟨v3,rfl,ho3⟩:=hfv
   have hb13:Below w1.heap.size w1 w3:=HB2.out.trans (hb3.mono hz2)
   have HO3:=Lib.hid ho3
   obtain ⟨A3,c3,rfl,_,_⟩:=ho3.length
   rw [List.length_map] at HO3 ⊢
   obtain ⟨pf,hpf⟩:∃ pf,peekF s.here p=pf:=⟨_,rfl⟩
   obtain ⟨pb,hpb⟩:∃ pb,peekB s.here p=pb:=⟨_,rfl⟩
   have HPF:=Lib.hid hpf
   have HPB:=Lib.hid hpb
   rw [hpf] at HO3 ⊢
   rw [hpb]
   clear hpf hpb ho3
   obtain ⟨w4,hw4⟩:∃ w4,w4=w3.alloc (.cells #[.int .i64 pf.mode,.slice A3 pf.data.length c3,.int .i64 pf.time] 91):=⟨_,rfl⟩
   have hb34:Below w3.heap.size w3 w4:=by rw [hw4];exact (Below.refl _ _).alloc (Nat.le_refl _) _
   have hbx:Blk w4 w3.heap.size 91 #[.int .i64 pf.mode,.slice A3 pf.data.length c3,.int .i64 pf.time]:=by rw [hw4];exact Blk.new _ _ _
   have hz3:=hb13.size
   have HO4:=Lib.hid (HO3.out.below hb34)
   have HB14:=Lib.hid (hb13.trans (hb34.mono hz3))
   have HK4:=Lib.hid (HB1.out.below HB14.out hwl)
   have HX4:=Lib.hid hbx
   clear hb13 hb34 hbx hb3
   go_upto_region 7 with (fail)
   rw [← hw4]
   clear hw4
   have x0:w4.cell? ⟨w3.heap.size,0,none⟩=some (.int .i64 pf.mode):=HX4.out.cell 0
   have x1:w4.cell? ⟨w3.heap.size,1,none⟩=some (.slice A3 pf.data.length c3):=HX4.out.cell 1
   have x2:w4.cell? ⟨w3.heap.size,2,none⟩=some (.int .i64 pf.time):=HX4.out.cell 2
   have a0:w4.cell? ⟨w.heap.size,0,none⟩=some (.int .i64 0):=HK4.out.cell 0
   have a1:w4.cell? ⟨w.heap.size,1,none⟩=some (.slice none 0 0):=HK4.out.cell 1
   have a2:w4.cell? ⟨w.heap.size,2,none⟩=some (.int .i64 0):=HK4.out.cell 2
   have f0:w4.frozen? ⟨w.heap.size,0,none⟩=false:=HK4.out.frozen 0
   have f1:w4.frozen? ⟨w.heap.size,1,none⟩=false:=HK4.out.frozen 1
   have f2:w4.frozen? ⟨w.heap.size,2,none⟩=false:=HK4.out.frozen 2
   cases pb with
   | false =>
    have HE:Hid (redE st p=7∧redF st p=⟨0,[],0⟩):=by
     have h1:redE st p=7:=by unfold redE;rw [if_pos HBE.out,if_neg (by rw [HTP.out];decide),HSS.out,if_neg (by rw [HPB.out];decide)]
     exact ⟨h1,by unfold redF;rw [h1,if_neg (by decide)]⟩
    have hs3:=set3 HK4.out (.int .i64 0) (.slice none 0 0) (.int .i64 0)
    have HBC:=Lib.hid hs3.1
    have HON3:=Lib.hid ((Only.of_below HB14.out).trans hs3.2 (fun _ h=>.inl h))
    clear hs3
    go_wp2_with fail
    generalize (((w4.setCell ⟨w.heap.size,0,none⟩ (.int .i64 0)).setCell ⟨w.heap.size,1,none⟩ (.slice none 0 0)).setCell ⟨w.heap.size,2,none⟩ (.int .i64 0))=wc at *
    have q0:wc.cell? ⟨w.heap.size,0,none⟩=some (.int .i64 0):=HBC.out.cell 0
    have q1:wc.cell? ⟨w.heap.size,1,none⟩=some (.slice none 0 0):=HBC.out.cell 1
    have q2:wc.cell? ⟨w.heap.size,2,none⟩=some (.int .i64 0):=HBC.out.cell 2
    refine bodyPost_ret (v:=.tuple #[.agg #[(.int .i64 0),(.slice none 0 0),(.int .i64 0)],.int .i64 7]) (by simp [results,Tryz.results52,go_sem,q0,q1,q2]) rfl ?_
    have hfin:=red_fin HBA.out HZA.out HAT.out HON.out HSUB.out HON3.out HLF.out HLM.out
    refine ⟨_,_,M1,by rw [HE.out.1],by rw [HE.out.2],by rw [HSS.out];exact hfin.1,hfin.2.1,hfin.2.2,?_⟩
    rw [HE.out.2]
    exact By.nil_ _ _
   | true =>
    have HE:Hid (redE st p=0∧redF st p=pf):=by
     have h1:redE st p=0:=by unfold redE;rw [if_pos HBE.out,if_neg (by rw [HTP.out];decide),HSS.out,if_pos HPB.out]
     exact ⟨h1,by unfold redF;rw [h1,if_pos rfl,HSS.out,HPF.out]⟩
    have HBY:=Lib.hid (OwnV.by_ (F:=fun _=>False) HO4.out)
    have hs3:=set3 HK4.out (.int .i64 pf.mode) (.slice A3 pf.data.length c3) (.int .i64 pf.time)
    have HBC:=Lib.hid hs3.1
    have HON3:=Lib.hid ((Only.of_below HB14.out).trans hs3.2 (fun _ h=>.inl h))
    have HBYC:=Lib.hid (HBY.out.only hs3.2 (fun k hk e=>by
     rcases hk with hk | hk
     ·exact hk
     ·have:=hk.1;omega))
    clear hs3
    go_wp2_with fail
    generalize (((w4.setCell ⟨w.heap.size,0,none⟩ (.int .i64 pf.mode)).setCell ⟨w.heap.size,1,none⟩ (.slice A3 pf.data.length c3)).setCell ⟨w.heap.size,2,none⟩ (.int .i64 pf.time))=wc at *
    have q0:wc.cell? ⟨w.heap.size,0,none⟩=some (.int .i64 pf.mode):=HBC.out.cell 0
    have q1:wc.cell? ⟨w.heap.size,1,none⟩=some (.slice A3 pf.data.length c3):=HBC.out.cell 1
    have q2:wc.cell? ⟨w.heap.size,2,none⟩=some (.int .i64 pf.time):=HBC.out.cell 2
    refine bodyPost_ret (v:=.tuple #[.agg #[(.int .i64 pf.mode),(.slice A3 pf.data.length c3),(.int .i64 pf.time)],.int .i64 0]) (by simp [results,Tryz.results52,go_sem,q0,q1,q2]) rfl ?_
    have hfin:=red_fin HBA.out HZA.out HAT.out HON.out HSUB.out HON3.out HLF.out HLM.out
    refine ⟨_,_,M1,by rw [HE.out.1],by rw [HE.out.2],by rw [HSS.out];exact hfin.1,hfin.2.1,hfin.2.2,?_⟩
    rw [HE.out.2]
    refine HBYC.out.mono (fun k hk hf=>?_)
    rcases hf with hf | hf
    ·exact hf.elim
    ·exact .inr ⟨by have:=hf.1;omega,hk,fun hm=>by have:=HAT.out.lt k hm;have:=hf.1;omega⟩
 ·have e1:(be==0)=false:=by rw [beq_eq_false_iff_ne];exact hb0
  have HE:Hid (redE st p=be∧redF st p=⟨0,[],0⟩):=by
   have h1:redE st p=be:=by unfold redE;rw [HBE.out,if_neg hb0]
   exact ⟨h1,by unfold redF;rw [h1,if_neg hb0]⟩
  clear hb0
  have a0:w1.cell? ⟨w.heap.size,0,none⟩=some (.int .i64 0):=HB1.out.cell 0
  have a1:w1.cell? ⟨w.heap.size,1,none⟩=some (.slice none 0 0):=HB1.out.cell 1
  have a2:w1.cell? ⟨w.heap.size,2,none⟩=some (.int .i64 0):=HB1.out.cell 2
  have f0:w1.frozen? ⟨w.heap.size,0,none⟩=false:=HB1.out.frozen 0
  have f1:w1.frozen? ⟨w.heap.size,1,none⟩=false:=HB1.out.frozen 1
  have f2:w1.frozen? ⟨w.heap.size,2,none⟩=false:=HB1.out.frozen 2
  have hs3:=set3 HB1.out (.int .i64 0) (.slice none 0 0) (.int .i64 0)
  have HBC:=Lib.hid hs3.1
  have HON3:=Lib.hid ((Only.refl _ w1).trans hs3.2 (fun _ h=>.inl h))
  clear hs3
  go_wp2_with fail
  generalize (((w1.setCell ⟨w.heap.size,0,none⟩ (.int .i64 0)).setCell ⟨w.heap.size,1,none⟩ (.slice none 0 0)).setCell ⟨w.heap.size,2,none⟩ (.int .i64 0))=wc at *
  have q0:wc.cell? ⟨w.heap.size,0,none⟩=some (.int .i64 0):=HBC.out.cell 0
  have q1:wc.cell? ⟨w.heap.size,1,none⟩=some (.slice none 0 0):=HBC.out.cell 1
  have q2:wc.cell? ⟨w.heap.size,2,none⟩=some (.int .i64 0):=HBC.out.cell 2
  refine bodyPost_ret (v:=.tuple #[.agg #[(.int .i64 0),(.slice none 0 0),(.int .i64 0)],.int .i64 be]) (by simp [results,Tryz.results52,go_sem,q0,q1,q2]) rfl ?_
  have hfin:=red_fin HBA.out HZA.out HAT.out HON.out HSUB.out HON3.out HLF.out HLM.out
  refine ⟨_,_,M1,by rw [HE.out.1],by rw [HE.out.2],by rw [HSS.out];exact hfin.1,hfin.2.1,hfin.2.2,?_⟩
  rw [HE.out.2]
  exact By.nil_ _ _
end Go.Proofs.YtlkolcokjmlmjaaGreat.Tx
