/- Texts put together: VHe1, VRf6, VRf7, VOo0. -/
import Derived.Test.YtlkolcokjmlmjaaGreatQv47
import Derived.Test.YtlkolcokjmlmjaaGreatQv45
import Derived.Test.YtlkolcokjmlmjaaGreatQv33
import Derived.Test.YtlkolcokjmlmjaaGreatQv28
import Derived.Test.YtlkolcokjmlmjaaGreatQv42
import Derived.Test.YtlkolcokjmlmjaaGreatQv31
namespace Go.Proofs.YtlkolcokjmlmjaaGreat.Tx
open Go.RowKit Go.Maps Go.Proofs.YtlkolcokjmlmjaaGreat.Sh
set_option maxRecDepth 100000 in
set_option maxHeartbeats 6400000 in
theorem does_y1 (F M : Nat → Prop) (b d : Nat) (c : CSt) (s : FSM) (i : Nat) (o : LOp) (dv pv : Value) (_hpv : pv.oneCell' = true) (G : Nat → Prop) (w : World) (h : TwoA F w b c d s M) (htd : Tied c s) (hc : GoN c i) (hs : GoMN s i) (hi : i ≤ 500000) (ho : OpOK o) (hk : o.kind < 0 ∨ 11 < o.kind) (hdv : By G w dv o.data) (hG : ∀ k, G k → ¬ M k) (hpl : InL evK F w pv o.plan) (hpd : ∀ e ∈ o.plan, e.data.length ≤ 140737488351232) :
  Calls Tryz.prog 19 #[.pointer (some ⟨b,0,none⟩),.pointer (some ⟨d,0,none⟩),opV o dv pv] w fun e w'=>∃ c',e=.returned (.bool true)∧DoesR c o c'∧Tied c' (doesM s o)∧TwoQ F M w b c' d (doesM s o) w':=by
 obtain ⟨kd,mo,ke,tn,pa,de,da,pl⟩:=o
 unfold opV
 dsimp only at hk hdv hpl hpd ⊢
 obtain ⟨pA,pcap,rfl,_,_⟩:=evs_slice hpl.tmp
 obtain ⟨pn,hpn⟩:∃ pn,pl.length=pn:=⟨_,rfl⟩
 rw [hpn] at hpl
 rw [hpn]
 obtain ⟨dA,dc,rfl,_,_⟩:=hdv.slice
 obtain ⟨dl,hdl⟩:∃ dl,da.length=dl:=⟨_,rfl⟩
 have hba:=(Below.refl w.heap.size w).alloc (Nat.le_refl _) (.cells #[.int .i64 kd,.int .i64 mo,.int .i64 ke,.int .i64 tn,.string (str pa),.string (str de),.slice dA dl dc,.slice pA pn pcap] 35)
 have hbk:Blk (w.alloc (.cells #[.int .i64 kd,.int .i64 mo,.int .i64 ke,.int .i64 tn,.string (str pa),.string (str de),.slice dA dl dc,.slice pA pn pcap] 35)) w.heap.size 35 #[.int .i64 kd,.int .i64 mo,.int .i64 ke,.int .i64 tn,.string (str pa),.string (str de),.slice dA dl dc,.slice pA pn pcap]:=Blk.new _ _ _
 rw [hdl] at hdv ⊢
 go_enter Tryz.func19,Tryz.ntmps19
 have c3:=hbk.cell 6
 have HDV:=Lib.hid hdv.bound
 have hsl:SlV (w.alloc (.cells #[.int .i64 kd,.int .i64 mo,.int .i64 ke,.int .i64 tn,.string (str pa),.string (str de),.slice dA dl dc,.slice pA pn pcap] 35)) (.slice dA dl dc) (da.map bv):=(hdv.only (Only.of_below (M:=fun _=>False) hba) (fun _ _=>id)).slv
 have HTD:=Lib.hid htd
 have HG:=Lib.hid hG
 have HC:=Lib.hid (hc.ready (by omega))
 have HCF:=Lib.hid hc.fits
 have HSM:=Lib.hid hs
 have HS:=Lib.hid (hs.ready (by omega))
 have HO:=Lib.hid ho
 have HDL:=Lib.hid hdl
 have H:=Lib.hid h
 have HBA:=Lib.hid hba
 have HBK:=Lib.hid hbk
 have HSL:=Lib.hid hsl
 have HI:=Lib.hid hi
 have HPL:=Lib.hid hpl
 have HPD:=Lib.hid hpd
 have HPN:=Lib.hid hpn
 clear htd hdv hG hc hs ho hdl h hba hbk hsl hi hpl hpd hpn
 go_wp2_with fail
 refine (rcopyb_big (.slice dA dl dc) da _ HSL.out (by have h9:da.length≤140737488351232:=HO.out.data;omega)).mono ?_
 rintro e w0 ⟨iv,rfl,hown,hb0⟩
 obtain ⟨iA,ic,rfl,_,_⟩:=hown.slv
 rw [List.length_map,HDL.out] at hown ⊢
 have HOWN:=Lib.hid hown
 have HB0:=Lib.hid (HBA.out.trans (hb0.mono HBA.out.size))
 have HBK0:Hid (Blk w0 w.heap.size 35 #[.int .i64 kd,.int .i64 mo,.int .i64 ke,.int .i64 tn,.string (str pa),.string (str de),.slice dA dl dc,.slice pA pn pcap]):=HBK.out.below hb0 (by simp)
 have hz0:w.heap.size<w0.heap.size:=by have:=hb0.size;simp at this;omega
 have HZ0:=Lib.hid hz0
 have H0:Hid (TwoA F w0 b c d s M):=H.out.below HB0.out
 clear hown hb0 hz0 c3
 have HT0:Hid (TwoQ F M w0 b c d s w0):=TwoQ.refl H0.out
 have HML:Hid (∀ k,M k→k<w.heap.size):=H.out.lt
 have HSC:Hid (∀ W,Only M w0 W→W.cell? ⟨w.heap.size,0,none⟩=some (.int .i64 kd)∧W.cell? ⟨w.heap.size,1,none⟩=some (.int .i64 mo)∧W.cell? ⟨w.heap.size,2,none⟩=some (.int .i64 ke)∧W.cell? ⟨w.heap.size,3,none⟩=some (.int .i64 tn)∧W.cell? ⟨w.heap.size,4,none⟩=some (.string (str pa))∧W.cell? ⟨w.heap.size,5,none⟩=some (.string (str de))∧W.cell? ⟨w.heap.size,6,none⟩=some (.slice dA dl dc)∧W.cell? ⟨w.heap.size,7,none⟩=some (.slice pA pn pcap)):=fun W hW=>by
  have b1:=hW.blk HBK0.out (fun hm=>by have:=HML.out _ hm;omega)
  exact ⟨b1.cell 0,b1.cell 1,b1.cell 2,b1.cell 3,b1.cell 4,b1.cell 5,b1.cell 6,b1.cell 7⟩
 have HIN:Hid (By (fun k=>w.heap.size<k∧k<w0.heap.size) w0 (.slice iA dl ic) da):=by
  have h1:=OwnV.by_ (F:=fun _=>False) HOWN.out
  exact h1.mono (fun k _ hk=>by
   rcases hk with hk | ⟨g1,g2⟩
   ·exact hk.elim
   ·simp at g1;exact ⟨by omega,g2⟩)
 have HD0:Hid (By (fun k=>G k∧k<w.heap.size) w0 (.slice dA dl dc) da):=HDV.out.only (Only.of_below (M:=fun _=>False) HB0.out) (fun _ _=>id)
 have q0:=HSC.out w0 (Only.refl _ _)
 have HPA:Hid (pa.length≤900000):=Nat.le_trans HO.out.path (by decide:400≤900000)
 have HDE:Hid (de.length≤900000):=Nat.le_trans HO.out.dest (by decide:400≤900000)
 have HI7:Hid (i≤700000):=by have:=HI.out;show i≤700000;omega
 go_upto_block 0 with (fail)
 go_cut [8] (fun v wx=>∃ c',v=.bool true∧(DoesR c ⟨kd,mo,ke,tn,pa,de,da,pl⟩ c'∧Tied c' (doesM s ⟨kd,mo,ke,tn,pa,de,da,pl⟩))∧TwoQ F M w0 b c' d (doesM s ⟨kd,mo,ke,tn,pa,de,da,pl⟩) wx)
 case first =>
  by_cases e12:kd=12
  ·subst e12
   obtain ⟨Ff,Fx,Mf,Mx,hX,hM⟩:=H0.out
   have HX:=Lib.hid hX
   have HM:=Lib.hid hM
   have HLT:Hid (∀ k,Mx k→k<w0.heap.size):=hX.x.mlt
   have HP0:Hid (InL evK F w0 (.slice pA pn pcap) pl):=HPL.out.below HB0.out
   clear hX hM
   go_wp2_with fail
   refine (plan_x Ff Mf b c (.slice pA pn pcap) pl w0 HX.out.f (HP0.out.mono (fun k _ hk=>HX.out.ff k hk)).tmp (Nat.le_trans HO.out.plan (by decide)) (fun e he=>Nat.le_trans (HPD.out e he) (by decide))).mono ?_
   rintro e w1 ⟨rfl,R,hR,hp⟩
   have HR:=Lib.hid hR
   have HP:=Lib.hid hp
   have HX1:=Lib.hid (HX.out.later HP.out)
   have hon:Only Mf w0 w1:=by obtain ⟨_,_,h9,_⟩:=hp;exact h9
   have HP1:Hid (InL evK F w1 (.slice pA pn pcap) pl):=HP0.out.only hon (fun k hk=>HX.out.f.apart_ k (HX.out.ff k hk))
   have HON:=Lib.hid hon
   have q1:=HSC.out w1 (hon.more (fun k _ hk=>(HM.out k).2 (.inl hk)))
   clear hR hp hon q0
   go_wp2_with fail
   refine (plainev_any F (.slice pA pn pcap) pl w1 HP1.out.tmp (Nat.le_trans HO.out.plan (by decide)) (fun k hk=>Nat.lt_of_lt_of_le (HX.out.f.low k (HX.out.ff k hk)) HON.out.size)).mono ?_
   rintro e w2 ⟨v2,rfl,ho2,hb2⟩
   have hz1:=HON.out.size
   have HX2:Hid (RefAt (fun k=>Fx k∨(w1.heap.size≤k∧k<w2.heap.size)) w2 d s Mx):=(HX1.out.below hb2).mono_ (fun k hk=>.inl hk) (fun k hk hm=>by
    rcases hk with hk | hk
    ·exact HX.out.x.apart_ k hk hm
    ·have:=HLT.out k hm;omega) (fun k hk=>by
    rcases hk with hk | hk
    ·have:=HX.out.x.low' k hk;have:=hb2.size;omega
    ·exact hk.2)
   have HI2:Hid (InL evK (fun k=>Fx k∨(w1.heap.size≤k∧k<w2.heap.size)) w2 v2 pl):=(show InL evK (fun k=>F k∨(w1.heap.size≤k∧k<w2.heap.size)) w2 v2 pl from ho2.rin).mono (fun k _ hk=>hk.imp (HX.out.gg k) id)
   have HB2:=Lib.hid hb2
   clear ho2 hb2 q1 hz1
   go_wp2_with fail
   refine (rplan_any _ Mx d s v2 pl w2 HX2.out HI2.out (Nat.le_trans HO.out.plan (by decide))).mono ?_
   rintro e w3 ⟨rfl,hq⟩
   have HT:=Lib.hid (twoq_both HX.out HM.out HP.out (FsPost.wide HB2.out (fun k hk=>hk) (fun k hk=>.inl hk) hq))
   clear hq
   go_wp2_with fail
   go_meet
   exact ⟨{ c with plan:=R },rfl,⟨⟨fun h=>absurd rfl h,fun _=>⟨R,HR.out.planR,rfl⟩⟩,by simpa [doesM] using HTD.out.plan HR.out⟩,by simpa [doesM] using HT.out⟩
  ·have HDR : Hid (DoesR c ⟨kd, mo, ke, tn, pa, de, da, pl⟩ c ∧ doesM s ⟨kd, mo, ke, tn, pa, de, da, pl⟩ = s) := by
    refine ⟨⟨fun _=>?_,fun h=>absurd h e12⟩,?_⟩
    ·unfold doesC
     dsimp only
     repeat rw [if_neg (by omega)]
    ·unfold doesM
     dsimp only
     repeat rw [if_neg (by omega)]
   by_cases e13:12<kd
   ·go_wp2_with fail
    go_meet
    exact ⟨c,rfl,⟨HDR.out.1,by rw [HDR.out.2];exact HTD.out⟩,by rw [HDR.out.2];exact HT0.out⟩
   ·have e14:kd<0:=by omega
    go_wp2_with fail
    go_meet
    exact ⟨c,rfl,⟨HDR.out.1,by rw [HDR.out.2];exact HTD.out⟩,by rw [HDR.out.2];exact HT0.out⟩
 case rest =>
  obtain ⟨c',rfl,hdr,hp⟩:=hcut
  have HP:=Lib.hid hp
  have HDR:=Lib.hid hdr
  obtain ⟨_,_,ho,_⟩:=hp
  have qc:=HSC.out wc ho
  have HI1:Hid (SlV wc (.slice iA dl ic) (da.map bv)):=(HIN.out.only ho (fun k hk hm=>by have:=HML.out k hm;omega)).slv
  have HD1:Hid (SlV wc (.slice dA dl dc) (da.map bv)):=(HD0.out.only ho (fun k hk=>HG.out k hk.1)).slv
  have HO1:Hid (OwnV 5 wc (w.heap.size+1) (.slice iA dl ic) (da.map bv)):=by
   have h1:=ho.own HOWN.out (fun k hk hm=>by
    have h2:=(HOWN.out.lt k hk).1
    have:=HML.out k hm
    simp at h2
    omega)
   exact h1.base (by simp)
  have hsz:=ho.size
  have HSZ:=Lib.hid hsz
  clear ho hsz q0 hdr
  go_wp2_with fail
  refine (tbytes_any iA dA dl dl ic dc da da wc HDL.out HDL.out HI1.out HD1.out true (by simp)).mono ?_
  rintro e wb ⟨rfl,rfl⟩
  go_wp2_with fail
  have HDM:Hid (dl≤140737488351232):=by have:=HO.out.data;rw [← HDL.out];exact this
  have hdm:=HDM.out
  go_loopw [17] (fun j wr=>∃ k:Nat,k≤dl∧j=.int .i64 k∧Only (fun g=>(Value.slice iA dl ic).ownBlock=some g) wc wr∧∃ vs:List Value,vs.length=dl∧(∀ u∈vs,∃ n:Int,u=.int .u8 n)∧OwnV 5 wr (w.heap.size+1) (.slice iA dl ic) vs) (fun j _=>dl - (intOf j).toNat)
  case atStart=>exact ⟨0,Nat.zero_le _,rfl,Only.refl _ _,da.map bv,by rw [List.length_map,HDL.out],fun u hu=>by
   obtain ⟨x,_,rfl⟩:=List.mem_map.1 hu
   exact ⟨_,rfl⟩,HO1.out⟩
  case round =>
   obtain ⟨k,hk,rfl,hon,vs,hvl,hvi,hov⟩:=hrel
   by_cases hlt:k<dl
   ·have hkv:k<vs.length:=by omega
    obtain ⟨g,rfl⟩:∃ g,iA=some ⟨g,0,none⟩:=by
     rcases hov.blk with ⟨_,he⟩ | ⟨g,c9,cur,he,_⟩
     ·rw [he] at hvl;simp at hvl;omega
     ·injection he with e1;exact ⟨g,e1⟩
    obtain ⟨n,hn⟩:=hvi vs[k] (List.getElem_mem hkv)
    obtain ⟨x1,x2⟩:=hov.cellAt k vs[k] (List.getElem?_eq_getElem hkv)
    rw [hn] at x1
    have HON:=Lib.hid hon
    have HVI:=Lib.hid hvi
    have HOV:=Lib.hid hov
    have HVL:=Lib.hid hvl
    have p1:(k:Int)<(dl:Int):=by omega
    clear hon hvi hov hvl hn
    go_wp2_with fail
    go_roundw
    case rel=>exact ⟨k+1,by omega,by go_num,HON.out.set_ (.inl rfl) _,vs.set k _,by rw [List.length_set];exact HVL.out,fun u hu=>by
     rcases List.mem_or_eq_of_mem_set hu with h9 | h9
     ·exact HVI.out u h9
     ·exact ⟨_,h9⟩,HOV.out.setAt k _⟩
    case measure=>simp [intOf];omega
   ·obtain rfl:k=dl:=by omega
    have HON:=Lib.hid hon
    clear hon hov hvi
    go_wp2_with fail
    go_ret
    refine ⟨c',rfl,HDR.out.1,HDR.out.2,TwoQ.around H.out HB0.out HP.out HON.out (fun g hg=>?_)⟩
    have h2:=HOWN.out.lt g hg
    simp at h2
    omega
set_option maxRecDepth 100000 in
set_option maxHeartbeats 400000 in
theorem does_y (F M : Nat → Prop) (b d : Nat) (c : CSt) (s : FSM) (i : Nat) (o : LOp) (dv pv : Value) (G : Nat → Prop) (w : World) (h : TwoA F w b c d s M) (htd : Tied c s) (hc : GoN c i) (hs : GoMN s i) (hi : i ≤ 500000) (ho : OpOK o) (hdv : By G w dv o.data) (hG : ∀ k, G k → ¬ M k) (hpl : InL evK F w pv o.plan) (hpd : ∀ e ∈ o.plan, e.data.length ≤ 140737488351232) :
  Calls Tryz.prog 19 #[.pointer (some ⟨b,0,none⟩),.pointer (some ⟨d,0,none⟩),opV o dv pv] w fun e w'=>∃ c',e=.returned (.bool true)∧DoesR c o c'∧Tied c' (doesM s o)∧TwoQ F M w b c' d (doesM s o) w':=by
 have hpv:pv.oneCell'=true:=by
  obtain ⟨pA,pcap,rfl,_,_⟩:=evs_slice hpl.tmp
  rfl
 by_cases hk:0≤o.kind∧o.kind≤11
 ·refine (does_y0 F M b d c s i o dv pv hpv G w h htd hc hs hi ho hk hdv hG).mono ?_
  rintro e w' ⟨he,hp⟩
  refine ⟨_,he,⟨fun _=>rfl,fun h12=>by omega⟩,htd.does hc.fits (by have:=hc.plan;omega) o,hp⟩
 ·exact does_y1 F M b d c s i o dv pv hpv G w h htd hc hs hi ho (by omega) hdv hG hpl hpd
end Go.Proofs.YtlkolcokjmlmjaaGreat.Tx
set_option linter.unusedVariables false
set_option linter.unusedSimpArgs false
namespace Go.Proofs.YtlkolcokjmlmjaaGreat.Tx
open Go.RowKit Go.Maps Go.Proofs.YtlkolcokjmlmjaaGreat.Sh
theorem id_valid (bs:List UInt8):validB (hexL (sumOf bs))=true:=by
 unfold validB
 rw [hexOk_hexL,hexL_length,sumOf_length]
 rfl
theorem sl_of {w:World} {v:Value} {bs:List UInt8} (h:SlV w v (bs.map bv)):Sl w v bs:=by
 obtain ⟨A,c,hv,h1,h2,h3⟩:=h.len
 rw [List.length_map] at hv h1 h3
 refine ⟨A,c,hv,h1,h2,fun h0=>?_,fun hA=>?_⟩
 ·obtain ⟨ad,hA,hc⟩:=reads_at h3 0 (bv (bs.getD 0 0)) (by rw [List.getElem?_map,List.getElem?_eq_getElem h0,List.getD_eq_getElem?_getD,List.getElem?_eq_getElem h0];rfl)
  refine ⟨ad,hA,?_,fun j hj=>?_⟩
  ·have:=World.block_lt_of_cell? w _ hc
   rw [addr_block] at this
   exact this
  ·obtain ⟨ad',hA',hc'⟩:=reads_at h3 j (bv (bs.getD j 0)) (by rw [List.getElem?_map,List.getElem?_eq_getElem hj,List.getD_eq_getElem?_getD,List.getElem?_eq_getElem hj];rfl)
   rw [hA] at hA'
   injection hA' with hA'
   subst hA'
   rw [hc']
   unfold bv
   rw [Tx.bi_nat]
   unfold Sh.bi
   rfl
 ·subst hA
  by_cases h0:0<bs.length
  ·obtain ⟨ad,hA,_⟩:=reads_at h3 0 (bv (bs.getD 0 0)) (by rw [List.getElem?_map,List.getElem?_eq_getElem h0,List.getD_eq_getElem?_getD,List.getElem?_eq_getElem h0];rfl)
   cases hA
  ·exact List.eq_nil_of_length_eq_zero (by omega)
section
variable {w w1:World} {b:Nat} {c:CSt} {i:Nat}
theorem set_mine (n old new : List UInt8) (h : Mine w w1 b c) (hg : GoC c i) (hi : i ≤ 3800) (hn : n.length ≤ 900000) (hol : old.length ≤ 900000) (hnl : new.length ≤ 900000) :
  Calls Tryz.prog 10 #[.pointer (some ⟨b,0,none⟩),.string (Tx.str n),.string (Tx.str old),.string (Tx.str new)] w1 fun e w'=>e=.returned (.int .i64 (setE c n old new))∧Mine w w' b (setC c n old new):=by
 obtain ⟨F,M,h1,h2,h3⟩:=h
 exact (set_any F M b c i n old new w1 h1 hg hi hn hol hnl).mono fun e w' h=>⟨h.1,Mine.of h2 h3 h.2⟩
theorem get_mine (n : List UInt8) (h : Mine w w1 b c) (hg : GoC c i) (hi : i ≤ 3800) (hn : n.length ≤ 900000) :
  Calls Tryz.prog 8 #[.pointer (some ⟨b,0,none⟩),.string (Tx.str n)] w1 fun e w'=>e=.returned (.tuple #[.string (Tx.str (getV c n)),.int .i64 (getE c n)])∧Mine w w' b (getC c n):=by
 obtain ⟨F,M,h1,h2,h3⟩:=h
 exact (get_any F M b c _ n w1 h1 (hg.ready (by omega)) hn).mono fun e w' h=>⟨h.1,Mine.of h2 h3 h.2⟩
theorem idc_any (v:Value) (bs:List UInt8) (w:World) (h:SlV w v (bs.map bv)) (hn:bs.length≤1000000):Calls Tryz.prog 21 #[v] w fun e w'=>e=.returned (.string (Tx.str (hexL (sumOf bs))))∧Below w.heap.size w w' :=
 id_any v bs w (sl_of h) (by omega)
end
def MineK (w w1:World) (b:Nat) (c:CSt) (g:Nat) (T:TypeId) (cs:Array Value):Prop:=∃ F M,FcAt F w1 b c M∧(∀ k,M k→w.heap.size≤k)∧Below w.heap.size w w1∧¬ M g∧Blk w1 g T cs
section
variable {w w1 w2:World} {b g:Nat} {c c':CSt} {T:TypeId} {cs:Array Value} {i:Nat}
end
theorem first_plain (a b : List UInt8) (ha : validB a = true) (hb : validB b = true) :
  setE (newC 1000) hdN [] a=0∧setE (setC (newC 1000) hdN [] a) hdN [] b=13∧getE (setC (setC (newC 1000) hdN [] a) hdN [] b) hdN=0∧getV (setC (setC (newC 1000) hdN [] a) hdN [] b) hdN=a:=by
 have c0:Calm (newC 1000):=⟨rfl,rfl⟩
 have o0:Ord (newC 1000).here:=List.Pairwise.nil
 obtain ⟨h1,h2,_⟩:=c0.set_ok o0 (n:=hdN) (old:=[]) (new:=a) (by decide) ha rfl rfl (by show ((0:Nat):Int)+65≤1000;omega) rfl (.inl ⟨rfl,rfl⟩)
 obtain ⟨c1,hc1⟩:∃ x,setC (newC 1000) hdN [] a=x:=⟨_,rfl⟩
 obtain ⟨f,hf⟩:∃ f:FileM,(⟨1,a++[10],(newC 1000).time+1⟩:FileM)=f:=⟨_,rfl⟩
 have hfd:f.data=a++[10]:=by rw [← hf]
 rw [hc1,hf] at h2
 rw [hc1]
 have hw:c1.here=[⟨refP hdN,f⟩]:=by rw [h2.here];rfl
 have o1:Ord c1.here:=by rw [hw];exact List.pairwise_singleton _ _
 have p1:peekB c1.here (refP hdN)=true:=by rw [h2.here,peek_with];simp
 have p2:peekF c1.here (refP hdN)=f:=by rw [h2.here,peekf_with o0]
 have hl:peekB c1.here (lockP hdN)=false:=by rw [h2.here,peek_with];decide
 have hm:mayM c1.here (lockP hdN)=true:=by rw [hw];show (!(underB (lockP hdN) (refP hdN)||underB (refP hdN) (lockP hdN))&&true)=true;decide
 have hr:(usedM c1.here:Int)+65≤c1.room:=by
  rw [h2.room,hw]
  show (([f.data.length].sum:Nat):Int)+65≤1000
  rw [hfd]
  have:=valid_len ha
  simp
  omega
 obtain ⟨g1,g2⟩:=h2.calm.set_wrong o1 (n:=hdN) (old:=[]) (new:=b) (by decide) hb hl hm hr (.inl ⟨rfl,p1⟩)
 obtain ⟨c2,hc2⟩:∃ x,setC c1 hdN [] b=x:=⟨_,rfl⟩
 rw [hc2] at g2
 rw [hc2]
 obtain ⟨k1,k2,_⟩:=g2.calm.get_ok (n:=hdN) (id:=a) (by decide) ha (by rw [g2.here];exact p1) (by rw [g2.here,p2];exact hfd)
 exact ⟨h1,g1,k1,k2⟩
set_option maxRecDepth 100000 in
set_option maxHeartbeats 6400000 in
theorem rfirst_any (w:World):Calls Tryz.prog 4 #[] w (Yes w):=by
 have kc:=fun (w:World) (C:Array Value) (n c:Nat)=>Lib.run_convert_bytes_const (P:=Tryz.prog) w 32 5 C n c Tryz.underlying32 Tryz.underlying5
 go_enter Tryz.func4,Tryz.ntmps4
 go_wp2_with fail
 refine (new_any (fun _=>False) 1000 w (fun _ h=>h.elim)).mono ?_
 rintro e w1 ⟨hb1,⟨h1,_⟩ | ⟨_,b,M,_,hM,rfl,hat⟩⟩
 ·exact absurd h1 (by decide)
 have H1:Hid (Mine w w1 b (newC 1000)):=⟨_,M,hat,hM,hb1⟩
 clear hb1 hM hat
 obtain ⟨ia,hia⟩:∃ x,hexL (sumOf [97])=x:=⟨_,rfl⟩
 obtain ⟨ib,hib⟩:∃ x,hexL (sumOf [98])=x:=⟨_,rfl⟩
 have HIA:=Lib.hid hia
 have HIB:=Lib.hid hib
 have hva:validB ia=true:=by rw [← hia];exact id_valid _
 have hvb:validB ib=true:=by rw [← hib];exact id_valid _
 have HPL:=Lib.hid (first_plain ia ib hva hvb)
 have HLA:Hid (ia.length≤900000):=by unfold Hid;rw [valid_len hva];omega
 have HLB:Hid (ib.length≤900000):=by unfold Hid;rw [valid_len hvb];omega
 have htl:(str ia).toList=ia:=str_toList _
 clear hia hib hva hvb
 go_wp2_with fail
 have hb2:Below w1.heap.size w1 (w1.alloc (.cells #[.int .u8 97] 5 (1,2))):=(Below.refl _ _).alloc (Nat.le_refl _) _
 refine (idc_any _ [97] _ (by_new w1 [97] #[.int .u8 97] _ _ (by simp [bv,bi]) 1 rfl (by omega)).slv (by simp)).mono ?_
 rintro e w2 ⟨rfl,hb3⟩
 rw [HIA.out]
 have H2:=Lib.hid ((H1.out.below hb2).below hb3)
 clear hb2 hb3
 go_wp2_with fail
 have hb2:Below w2.heap.size w2 (w2.alloc (.cells #[.int .u8 98] 5 (1,2))):=(Below.refl _ _).alloc (Nat.le_refl _) _
 refine (idc_any _ [98] _ (by_new w2 [98] #[.int .u8 98] _ _ (by simp [bv,bi]) 1 rfl (by omega)).slv (by simp)).mono ?_
 rintro e w3 ⟨rfl,hb3⟩
 rw [HIB.out]
 have H3:=Lib.hid ((H2.out.below hb2).below hb3)
 clear hb2 hb3
 go_wp2_with fail
 refine (set_mine hdN [] ia H3.out (GoC.new_ 1000) (by omega) (by decide) (by decide) HLA.out).mono ?_
 rintro e w4 ⟨rfl,h4⟩
 have H4:=Lib.hid h4
 rw [HPL.out.1]
 clear h4
 go_wp2_with fail
 refine (set_mine hdN [] ib H4.out ((GoC.new_ 1000).set_ hdN [] ia) (by omega) (by decide) (by decide) HLB.out).mono ?_
 rintro e w5 ⟨rfl,h5⟩
 have H5:=Lib.hid h5
 rw [HPL.out.2.1]
 clear h5
 go_wp2_with fail
 refine (get_mine hdN H5.out (((GoC.new_ 1000).set_ hdN [] ia).set_ hdN [] ib) (by omega) (by decide)).mono ?_
 rintro e w6 ⟨rfl,h6⟩
 have H6:=Lib.hid h6
 rw [HPL.out.2.2.1,HPL.out.2.2.2]
 clear h6
 go_wp2_with fail
 go_ret
 obtain ⟨_,_,_,_,hb⟩:=H6.out
 exact ⟨rfl,hb⟩
end Go.Proofs.YtlkolcokjmlmjaaGreat.Tx
set_option linter.unusedVariables false
set_option linter.unusedSimpArgs false
namespace Go.Proofs.YtlkolcokjmlmjaaGreat.Tx
open Go.RowKit Go.Maps Go.Proofs.YtlkolcokjmlmjaaGreat.Sh
def MineP (w w1:World) (b:Nat) (c:CSt) (Z:Nat→Prop):Prop:=∃ F M,FcAt F w1 b c M∧(∀ k,M k→w.heap.size≤k)∧Below w.heap.size w w1∧∀ k,Z k→¬ F k∧¬ M k∧k<w1.heap.size
section
variable {w w1 w2:World} {b g i:Nat} {c c':CSt} {Z Z':Nat→Prop}
end
structure HavOK (H:List UInt8→Option (List UInt8)) (D:DataW Value):Prop where
 has_:∀ p,Maps.has D (.string p)=(H p).isSome
 at_:∀ p id,H p=some id→∀ z,D.atKey (.string p) z=.held (.string (str id))
structure ApW (w wx:World) (b:Nat) (cs:CSt) (mb:Nat) (Z:Nat→Prop) (H:List UInt8→Option (List UInt8)) (N:Nat):Prop where
 mine:MineP w wx b cs Z
 z:Z mb
 own:∃ D n,wx.ownsMap Tryz.prog 9 hv mb n D∧HavOK H D∧n≤N
 mbw:w.heap.size≤mb
section
variable {w wx wy:World} {b mb:Nat} {cs c':CSt} {Z:Nat→Prop} {H:List UInt8→Option (List UInt8)} {N:Nat}
end
end Go.Proofs.YtlkolcokjmlmjaaGreat.Tx
set_option linter.unusedVariables false
set_option linter.unusedSimpArgs false
namespace Go.Proofs.YtlkolcokjmlmjaaGreat.Tx
open Go.RowKit Go.Maps Go.Proofs.YtlkolcokjmlmjaaGreat.Sh
theorem info_op:(Tryz.prog.info? 35).map (fun i=>(i.zero,i.size,i.bytes))=some (some (.agg #[.int .i64 0,.int .i64 0,.int .i64 0,.int .i64 0,.string ⟨#[]⟩,.string ⟨#[]⟩,.slice none 0 0,.slice none 0 0]),8,112):=by kernel_rfl
structure OpS where
 o:LOp
 d:Value
 p:Value
def opC (t:OpS):List Value:=[.int .i64 t.o.kind,.int .i64 t.o.mode,.int .i64 t.o.keep,.int .i64 t.o.torn,.string (str t.o.path),.string (str t.o.dest),t.d,t.p]
def flatO (l:List OpS):List Value:=(l.map opC).flatten
theorem flatO_app (l m:List OpS):flatO (l++m)=flatO l++flatO m:=by unfold flatO;rw [List.map_append,List.flatten_append]
theorem flatO_at {l:List OpS} {k:Nat} {t:OpS} (h:l[k]? = some t) (j:Nat) (u:Value) (hu:(opC t)[j]? = some u):(flatO l)[k*8+j]? = some u:=by
 refine flat_at (m:=8) (fun x hx=>?_) k _ (by rw [List.getElem?_map,h];rfl) j u hu
 obtain ⟨t,_,rfl⟩:=List.mem_map.1 hx
 rfl
def calmB (o:LOp):Bool:=decide (o.kind≤7)&&decide (0≤o.kind)
structure OwnO (G:Nat→Prop) (w:World) (B:Nat) (v:Value) (els:List OpS):Prop where
 row:w.ownsRow B 35 8 v els.length (flatO els)
 data:∀ t∈els,By G w t.d t.o.data
 plan:∀ t∈els,InL evK G w t.p t.o.plan
theorem OwnO.nil_ (G:Nat→Prop) (w:World) (B:Nat):OwnO G w B (.slice none 0 0) []:=⟨World.ownsRow_nil w B _ _,fun _ h=>(List.not_mem_nil h).elim,fun _ h=>(List.not_mem_nil h).elim⟩
theorem OwnO.slice {G:Nat→Prop} {w:World} {B:Nat} {v:Value} {els:List OpS} (h:OwnO G w B v els):∃ A c,v=.slice A els.length c∧els.length≤c∧c≤maxLen:=by
 rcases h.row.2 with ⟨rfl,h0⟩ | ⟨g,cap,cur,rfl,_,_,hc,hm,_⟩
 ·exact ⟨none,0,by rw [h0],by rw [h0];exact Nat.zero_le _,by unfold maxLen;omega⟩
 ·exact ⟨_,cap,rfl,hc,hm⟩
theorem OwnO.below {G:Nat→Prop} {w w':World} {B:Nat} {v:Value} {els:List OpS} (h:OwnO G w B v els) (hb:Below w.heap.size w w'):OwnO G w' B v els:=by
 refine ⟨?_,fun t ht=>(h.data t ht).only (Only.of_below (M:=fun _=>False) hb) (fun _ _=>id),fun t ht=>(h.plan t ht).below hb⟩
 refine ⟨h.row.1,h.row.2.imp id fun ⟨g,cap,cur,a1,a2,a3,a4⟩=>⟨g,cap,cur,a1,a2,?_,a4⟩⟩
 exact (hb.block g (Array.getElem?_eq_some_iff.1 a3).1).trans a3
theorem OwnO.ops {G G':Nat→Prop} {w:World} {B:Nat} {v:Value} {els:List OpS} (h:OwnO G w B v els) (hG:∀ k,G k→G' k) (hn:∀ k,B≤k→k<w.heap.size→G' k):OpsF G' w v (els.map OpS.o):=by
 obtain ⟨A,c,hv,hc,hm⟩:=h.slice
 have hlen:(els.map OpS.o).length=els.length:=List.length_map _
 refine ⟨A,c,by rw [hlen];exact hv,by rw [hlen];exact hc,hm,fun k o hk=>?_⟩
 rw [List.getElem?_map] at hk
 cases he:els[k]? with
 | none=>rw [he] at hk;cases hk
 | some t =>
  rw [he] at hk
  injection hk with hk
  subst hk
  have hmem:=List.mem_of_getElem? he
  have hlt:=(List.getElem?_eq_some_iff.1 he).1
  rcases h.row.2 with ⟨_,h0⟩ | ⟨g,cap,cur,hv2,hB,hg,_⟩
  ·omega
  ·have e1:=hv.symm.trans hv2
   injection e1 with e1 _ _
   have hgl:=(Array.getElem?_eq_some_iff.1 hg).1
   have hcell:∀ j u,(opC t)[j]? = some u→w.cell? ((⟨g,0,none⟩:Addr).add (k*8+j))=some u:=fun j u hu=>h.row.cells (g:=g) (by rw [hv2];rfl) _ _ (flatO_at he j u hu)
   have hf:∀ j u,0<j→(opC t)[j]? = some u→w.cell? ⟨((⟨g,0,none⟩:Addr).add (k*8)).block,((⟨g,0,none⟩:Addr).add (k*8)).off+j,none⟩=some u:=fun j u hj hu=>by
    rw [← add_field _ _ j hj];exact hcell j u hu
   refine ⟨⟨g,0,none⟩,t.d,t.p,e1,hn g hB hgl,hgl,(h.data t hmem).mono (fun k _ hk=>hG k hk),(h.plan t hmem).mono (fun k _ hk=>hG k hk),hcell 0 _ rfl,hf 1 _ (by decide) rfl,hf 2 _ (by decide) rfl,hf 3 _ (by decide) rfl,hf 4 _ (by decide) rfl,hf 5 _ (by decide) rfl,hf 6 _ (by decide) rfl,hf 7 _ (by decide) rfl⟩
theorem own_app {ops : Array Oper} {rest : List Oper} {o : Oper} {a : Act} {Q : Exit → Act → World → Prop} (hgd : o.guard = none) (s x : Operand)
  (ho:o.op=.call { callee:=.builtin .append,args:=#[s,x],argTypes:=#[57,57] }) {G:Nat→Prop} {w:World} {B:Nat} {v:Value} {els:List OpS} {t:OpS} {g:Nat} (hown:OwnO G w B v els) (hg:Blk w g 35 (opC t).toArray) (hd:By G w t.d t.o.data) (hp:InL evK G w t.p t.o.plan)
  (hs:a.eval s=v) (hx:a.eval x=.slice (some ⟨g,0,none⟩) 1 1) (hsmall:els.length≤1000000) (hB:B≤w.heap.size) (hG:∀ k,G k→k<B)
  (h:∀ v' w',OwnO G w' B v' (els++[t])→w.grownBy w' v.ownBlock→wpList Tryz.prog ops Q rest (a.put o.dst v') w'):wpList Tryz.prog ops Q (o::rest) a w:=by
 obtain ⟨i0,hi,hz0,hz1,hz2⟩:=info_parts info_op
 have hd1:t.d.oneCell'=true:=by obtain ⟨A,c,e,_⟩:=hd.slice;rw [e];rfl
 have hp1:t.p.oneCell'=true:=by obtain ⟨A,c,e,_⟩:=evs_slice hp.tmp;rw [e];rfl
 have hone:∀ u∈opC t,u.oneCell'=true:=by
  intro u hu
  unfold opC at hu
  simp only [List.mem_cons,List.not_mem_nil,or_false] at hu
  rcases hu with rfl | rfl | rfl | rfl | rfl | rfl | rfl | rfl <;> first | rfl | exact hd1 | exact hp1
 have hr:Reads w w.heap.size 8 (some ⟨g,0,none⟩) 1 (opC t):=⟨rfl,fun _=>⟨⟨g,0,none⟩,rfl,hg.lt,fun j u hu=>by
  rw [Addr.add_mid,Nat.zero_add,hg.cell,← hu]
  simp⟩⟩
 refine wpList_append_any w hgd s x 57 ho B 35 i0 _ 8 112 Tryz.underlying57 hi hz0 hz1 hz2 rfl (by decide) v els.length _ hs hown.row w.heap.size _ 1 1 _ hx hr hone (by unfold maxLen;omega) (Nat.le_trans (Nat.mul_le_mul_right 112 (show els.length+1≤1000001 by omega)) (by decide)) hB ?_
 intro v' w' g1 g2 g3
 have hon:Only (fun k=>v.ownBlock=some k) w w':=⟨g2.os,g2.tape,g2.output,g2.size,fun k hk hn=>g2.block k hk (fun e=>hn e.symm)⟩
 have hap:∀ k,G k→¬ (v.ownBlock=some k):=fun k hk e=>by
  have:=(hown.row.lt k e).1
  have:=hG k hk
  omega
 refine h v' w' ⟨?_,fun q hq=>?_,fun q hq=>?_⟩ g2
 ·rw [List.length_append,flatO_app]
  have e:flatO [t]=opC t:=by unfold flatO;simp
  rw [e]
  exact g1
 ·rcases List.mem_append.1 hq with hq | hq
  ·exact (hown.data q hq).only hon hap
  ·rw [List.mem_singleton.1 hq];exact hd.only hon hap
 ·rcases List.mem_append.1 hq with hq | hq
  ·exact (hown.plan q hq).only hon hap
  ·rw [List.mem_singleton.1 hq];exact hp.only hon hap
end Go.Proofs.YtlkolcokjmlmjaaGreat.Tx
