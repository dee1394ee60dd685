/- Texts put together: VHd2. -/
import Derived.Test.YtlkolcokjmlmjaaGreatQv45
import Derived.Test.YtlkolcokjmlmjaaGreatQv42
import Derived.Deep.RegionLaw
set_option linter.unusedVariables false
set_option linter.unusedSimpArgs false
namespace Go.Proofs.YtlkolcokjmlmjaaGreat.Tx
open Go.RowKit Go.Maps Go.Proofs.YtlkolcokjmlmjaaGreat.Sh
namespace H2
theorem take_at {P : Program} {md : Region.Mode} {ops : Array Oper} {Q : Exit → Act → World → Prop} {S : World → Prop} {i d : Nat} {oi : Oper} {v : Value} {fuel : Nat} {listed : Array Bool} {a : Act} {w : World} (hi : ops[i]? = some oi) (hd : oi.dst = some d)
  (hs:Region.noSelect ops=true:=by kernel_rfl) (hf:Region.free md ops listed i=true:=by kernel_rfl) (hr:(Region.ready md ops listed).contains i=true:=by kernel_rfl)
  (hQ:∀ c a w,Q (.panic c) (a.put (some d) v) w→Q (.panic c) a w:=by exact fun _ _ _ h=>h) (hy:YieldsIf P ops S oi v a) (hS:S w:=by assumption)
  (h:wpAnyH P md ops Q S fuel (listed.setIfInBounds i true) (a.put (some d) v) w):wpAnyH P md ops Q S (fuel+1) listed a w :=
 wpAnyH_take hi hs hf hr (by rw [hd];exact hQ) hy hS (by rw [hd];exact h)
end H2
open H2
structure EvRd (w:World) (x:Addr) (e:EvM) (A:Option Addr) (c:Nat):Prop where
 y0:w.cell? x=some (.int .i64 e.at_)
 y1:w.cell? ⟨x.block,x.off+1,none⟩=some (.int .i64 e.kind)
 y2:w.cell? ⟨x.block,x.off+2,none⟩=some (.int .i64 e.mode)
 y5:w.cell? ⟨x.block,x.off+5,none⟩=some (.string (str e.path))
 y6:w.cell? ⟨x.block,x.off+6,none⟩=some (.slice A e.data.length c)
 sl:SlV w (.slice A e.data.length c) (e.data.map bv)
theorem EvRd.of {F:Nat→Prop} {w:World} {A:Option Addr} {n c:Nat} {l:List EvM} (h:TmpL evK F w (.slice A n c) l) (k:Nat) (e:EvM) (hk:l[k]? = some e):∃ (ad:Addr) (A2:Option Addr) (c2:Nat),A=some ad∧EvRd w (ad.add (k*7)) e A2 c2:=by
 obtain ⟨ad,d,hA,hby,hc⟩:=TmpL.at_ (K:=evK) h k e hk
 obtain ⟨A2,c2,rfl,_,_⟩:=hby.slice
 have hf:∀ j u,0<j→(evK.cells e (.slice A2 e.data.length c2))[j]? = some u→w.cell? ⟨(ad.add (k*7)).block,(ad.add (k*7)).off+j,none⟩=some u:=fun j u hj hu=>by rw [← add_field _ _ j hj];exact hc j u hu
 exact ⟨ad,A2,c2,hA,hc 0 _ rfl,hf 1 _ (by decide) rfl,hf 2 _ (by decide) rfl,hf 5 _ (by decide) rfl,hf 6 _ (by decide) rfl,hby.slv⟩
theorem EvRd.below {w w':World} {x:Addr} {e:EvM} {A:Option Addr} {c:Nat} (h:EvRd w x e A c) (hb:Below w.heap.size w w'):EvRd w' x e A c :=
 ⟨(hb.cell (World.block_lt_of_cell? w _ h.y0)).trans h.y0,(hb.cell (World.block_lt_of_cell? w _ h.y1)).trans h.y1,(hb.cell (World.block_lt_of_cell? w _ h.y2)).trans h.y2,(hb.cell (World.block_lt_of_cell? w _ h.y5)).trans h.y5,(hb.cell (World.block_lt_of_cell? w _ h.y6)).trans h.y6,h.sl.below hb⟩
set_option maxRecDepth 100000 in
set_option maxHeartbeats 6400000 in
theorem same_x (F M : Nat → Prop) (b d : Nat) (c : CSt) (s : FSM) (w : World) (h : TwoAt F w b c d s M) (ht : Tied c s) (hs : CSmall c) (hu : UsrC c) :
  Calls Tryz.prog 20 #[.pointer (some ⟨b,0,none⟩),.pointer (some ⟨d,0,none⟩)] w fun e w'=>e=.returned (.bool true)∧Below w.heap.size w w':=by
 obtain ⟨Mf,Mx,hX,hM⟩:=h
 have H1:=Lib.hid hX.f
 have H2:=Lib.hid hX.x
 have HS:=Lib.hid hs
 have HU:=Lib.hid hu
 have HSN:Hid (s.now=c.here):=ht.tie.now.symm
 have HSU:Hid (s.user=c.users):=ht.tie.users.symm
 obtain ⟨n1,e1⟩:∃ n,c.calls=n:=⟨_,rfl⟩
 obtain ⟨n2,e2⟩:∃ n,c.time=n:=⟨_,rfl⟩
 obtain ⟨n3,e3⟩:∃ n:Int,(usedM c.here:Int)=n:=⟨_,rfl⟩
 obtain ⟨n4,e4⟩:∃ n:Int,(c.pending.length:Int)=n:=⟨_,rfl⟩
 obtain ⟨t5,e5⟩:∃ t,(!c.down)=t:=⟨_,rfl⟩
 have HN1:Hid (c.calls=n1∧s.calls=n1):=⟨e1,ht.tie.calls.symm.trans e1⟩
 have HN2:Hid (c.time=n2∧s.time=n2):=⟨e2,ht.tie.time.symm.trans e2⟩
 have HN3:Hid ((usedM c.here:Int)=n3∧(usedM s.now:Int)=n3):=⟨e3,by rw [HSN.out];exact e3⟩
 have HN4:Hid ((c.pending.length:Int)=n4∧(s.pending.length:Int)=n4):=⟨e4,by rw [← ht.tie.pend.len];exact e4⟩
 have HN5:Hid ((!c.down)=t5∧(!s.down)=t5):=⟨e5,by rw [← ht.tie.down];exact e5⟩
 have q1:(n1 != n1)=false:=by simp
 have q2:(n2 != n2)=false:=by simp
 have q3:(n3 != n3)=false:=by simp
 have q4:(n4 != n4)=false:=by simp
 have q5:(t5 != t5)=false:=by simp
 have HRU:Hid (usedM s.now≤4000000000000):=by have:=hs.hused;rw [← HSN.out] at this;exact Nat.le_trans this (by decide)
 obtain ⟨R,hR⟩:∃ R,c.here=R:=⟨_,rfl⟩
 have HR1:=Lib.hid hR
 have HR2:=Lib.hid (HSN.out.trans hR)
 have HRD:Hid (∀ r∈s.now,r.f.data.length≤1000000):=fun r hr=>by rw [HSN.out] at hr;exact Nat.le_trans (hs.hrow r hr).2 (by decide)
 have HRN:Hid (s.now.length≤1000000):=by rw [HSN.out];exact Nat.le_trans hs.here (by decide)
 obtain ⟨ps,hps⟩:∃ ps,(pathsM R).map str=ps:=⟨_,rfl⟩
 have HPS:=Lib.hid hps
 have HLP:Hid (∀ k x,ps[k]? = some x→∃ p:List UInt8,x=str p∧p.length≤1000):=fun k x hx=>by
  rw [← hps,List.getElem?_map] at hx
  cases hq:(pathsM R)[k]? with
  | none=>rw [hq] at hx;cases hx
  | some p =>
   rw [hq] at hx
   injection hx with hx
   refine ⟨p,hx.symm,?_⟩
   unfold pathsM at hq
   rw [List.getElem?_map] at hq
   cases hr:R[k]? with
   | none=>rw [hr] at hq;cases hq
   | some r =>
    rw [hr] at hq
    injection hq with hq
    rw [← hq]
    exact (hs.hrow r (by rw [hR];exact List.mem_of_getElem? hr)).1
 have HUL:Hid (c.users.length≤1000000):=Nat.le_trans hs.users (by decide)
 clear hX hM hs hu ht hR hps e1 e2 e3 e4 e5
 go_enter Tryz.func20,Tryz.ntmps20
 go_wp2_with fail
 refine (calls_any H1.out).mono ?_
 rw [HN1.out.1]
 rintro e w' ⟨rfl,rfl⟩
 go_wp2_with fail
 refine (rcalls_any H2.out).mono ?_
 rw [HN1.out.2]
 rintro e w' ⟨rfl,rfl⟩
 go_wp2_with fail
 refine (now_any H1.out).mono ?_
 rw [HN2.out.1]
 rintro e w' ⟨rfl,rfl⟩
 go_wp2_with fail
 refine (rnow_any H2.out).mono ?_
 rw [HN2.out.2]
 rintro e w' ⟨rfl,rfl⟩
 go_wp2_with fail
 refine (fused_any H1.out).mono ?_
 rw [HN3.out.1]
 rintro e w' ⟨rfl,rfl⟩
 go_wp2_with fail
 refine (rfused_any H2.out HRU.out).mono ?_
 rw [HN3.out.2]
 rintro e w' ⟨rfl,rfl⟩
 go_wp2_with fail
 refine (pending_any H1.out).mono ?_
 rw [HN4.out.1]
 rintro e w' ⟨rfl,rfl⟩
 go_wp2_with fail
 refine (rpending_any H2.out).mono ?_
 rw [HN4.out.2]
 rintro e w' ⟨rfl,rfl⟩
 go_wp2_with fail
 refine (up_any H1.out).mono ?_
 rw [HN5.out.1]
 rintro e w' ⟨rfl,rfl⟩
 go_wp2_with fail
 refine (rup_any H2.out).mono ?_
 rw [HN5.out.2]
 rintro e w' ⟨rfl,rfl⟩
 go_wp2_with fail
 refine (paths_any H1.out HS.out).mono ?_
 rw [HR1.out,HPS.out]
 rintro e w1 ⟨v1,rfl,ho1,hb1⟩
 obtain ⟨A,c0,rfl,hlc,hcm,_⟩:=ho1.slv
 have HB1:=Lib.hid hb1
 have HV1:=Lib.hid ho1.slv
 have HQ2:=Lib.hid (H2.out.below hb1)
 obtain ⟨n,hn⟩:∃ n,(ps.map sv).length=n:=⟨_,rfl⟩
 rw [hn] at hlc HV1
 rw [hn]
 have HN:Hid (ps.length=n):=by rw [← hn];show ps.length=(ps.map sv).length;simp
 unfold maxLen at hcm
 clear ho1 hb1 hn
 go_wp2_with fail
 refine (rpaths_any HQ2.out HRN.out).mono ?_
 rw [HR2.out,HPS.out]
 rintro e w2 ⟨v2,rfl,ho2,hb2⟩
 obtain ⟨A2,c2',rfl,_,_,_⟩:=ho2.slv
 have HB2:=Lib.hid (HB1.out.trans (hb2.mono HB1.out.size))
 have HV2:=Lib.hid (HV1.out.below hb2)
 have hw2:=ho2.slv
 have hn2:(ps.map sv).length=n:=by rw [List.length_map];exact HN.out
 rw [hn2] at hw2
 rw [hn2]
 have HW2:=Lib.hid hw2
 clear ho2 hb2 hn2 hw2
 go_wp2_with fail
 refine (texts_any _ _ ps ps w2 HV2.out HW2.out).mono ?_
 rintro e w3 ⟨t,rfl,ht,hb3⟩
 obtain rfl:t=true:=ht.2 rfl
 have HB3:=Lib.hid (HB2.out.trans (hb3.mono HB2.out.size))
 have HV3:=Lib.hid (HV2.out.below hb3)
 clear ht hb3
 go_wp2_with fail
 go_loopw [6] (fun i wr=>∃ k:Nat,k≤n∧i=.int .i64 k∧Below w.heap.size w wr∧SlV wr (.slice A n c0) (ps.map sv)) (fun i _=>n - (intOf i).toNat)
 case atStart=>exact ⟨0,Nat.zero_le _,rfl,HB3.out,HV3.out⟩
 case round =>
  obtain ⟨k,hk,rfl,hb,hv⟩:=hrel
  have HB:=Lib.hid hb
  have HV:=Lib.hid hv
  clear hb hv
  have z0:(0:Int)≤(k:Int):=by omega
  by_cases hlt:k<n
  ·have z1:(k:Int)<(n:Int):=by omega
   have hkl:k<ps.length:=by rw [HN.out];exact hlt
   obtain ⟨p,hp,hpl⟩:=HLP.out k ps[k] (List.getElem?_eq_getElem hkl)
   obtain ⟨ad,rfl⟩:∃ ad,A=some ad:=by
    obtain ⟨A',c',hv',_,_,hR,_⟩:=HV.out
    injection hv' with e1 _ _
    subst e1
    rw [List.length_map] at hR
    obtain ⟨ad,e,_⟩:=texts_at hR k hkl
    exact ⟨ad,e⟩
   have HCL:Hid (∀ W,Below wr.heap.size wr W→W.cell? (ad.add k)=some (.string (str p))):=fun W hW=>by
    obtain ⟨A',c',hv',_,_,hR,_⟩:=HV.out.below hW
    injection hv' with e1 _ _
    subst e1
    rw [List.length_map] at hR
    obtain ⟨ad',e,hc⟩:=texts_at hR k hkl
    injection e with e
    subst e
    rw [hc,hp]
   have hcell:=HCL.out wr (Below.refl _ _)
   have HPL:=Lib.hid hpl
   clear hkl hp hpl
   go_wp2_with fail
   refine (peek_any p (H1.out.below HB.out) HS.out (Nat.le_trans HPL.out (by decide))).mono ?_
   rw [HR1.out]
   rintro e w4 ⟨u4,rfl,⟨v4,rfl,ho4⟩,hb4⟩
   obtain ⟨f,hf⟩:∃ f,peekF R p=f:=⟨_,rfl⟩
   obtain ⟨st,hst⟩:∃ t,peekB R p=t:=⟨_,rfl⟩
   rw [hf] at ho4 ⊢
   rw [hst]
   have HF:=Lib.hid hf
   have HST:=Lib.hid hst
   obtain ⟨A4,c4,rfl,_,_⟩:=ho4.slv
   rw [List.length_map] at ho4 ⊢
   obtain ⟨fl,hfl⟩:∃ l,f.data.length=l:=⟨_,rfl⟩
   rw [hfl] at ho4 ⊢
   have HFL:=Lib.hid hfl
   have hba:=hb4.alloc hb4.size (.cells #[.int .i64 f.mode,.slice A4 fl c4,.int .i64 f.time] 91)
   have hcell4:=HCL.out _ hba
   have HBA:=Lib.hid hba
   have HX4:Hid (Blk (w4.alloc (.cells #[.int .i64 f.mode,.slice A4 fl c4,.int .i64 f.time] 91)) w4.heap.size 91 #[.int .i64 f.mode,.slice A4 fl c4,.int .i64 f.time]):=Blk.new _ _ _
   have HS4:Hid (SlV (w4.alloc (.cells #[.int .i64 f.mode,.slice A4 fl c4,.int .i64 f.time] 91)) (.slice A4 fl c4) (f.data.map bv)):=ho4.slv.below ((Below.refl _ _).alloc (Nat.le_refl _) _)
   clear ho4 hb4 hba hf hst hfl hcell
   go_wp2_with fail
   refine (rpeek_any p (H2.out.below (HB.out.trans (HBA.out.mono HB.out.size))) HRD.out).mono ?_
   rw [HR2.out]
   rintro e w5 ⟨u5,rfl,⟨v5,rfl,ho5⟩,hb5⟩
   rw [HF.out] at ho5 ⊢
   rw [HST.out]
   obtain ⟨A5,c5,rfl,_,_⟩:=ho5.slv
   rw [List.length_map] at ho5 ⊢
   rw [HFL.out] at ho5 ⊢
   have hbb:=hb5.alloc hb5.size (.cells #[.int .i64 f.mode,.slice A5 fl c5,.int .i64 f.time] 78)
   have hx4:=HX4.out.below hbb HX4.out.lt
   have y0:=hx4.cell 0
   have y1:=hx4.cell 1
   have y2:=hx4.cell 2
   have HS5:Hid (SlV (w5.alloc (.cells #[.int .i64 f.mode,.slice A5 fl c5,.int .i64 f.time] 78)) (.slice A5 fl c5) (f.data.map bv)):=ho5.slv.below ((Below.refl _ _).alloc (Nat.le_refl _) _)
   have HS45:Hid (SlV (w5.alloc (.cells #[.int .i64 f.mode,.slice A5 fl c5,.int .i64 f.time] 78)) (.slice A4 fl c4) (f.data.map bv)):=HS4.out.below hbb
   have HBB:=Lib.hid (HBA.out.trans (hbb.mono HBA.out.size))
   have qst:(st != st)=false:=by simp
   clear ho5 hb5 hbb hx4 hcell4
   go_wp2_with fail
   refine (file_any f.mode f.time f.mode f.time A4 A5 fl fl c4 c5 f.data f.data _ HFL.out HFL.out HS45.out HS5.out).mono ?_
   rintro e w6 ⟨rfl,hb6⟩
   obtain ⟨t,ht⟩:∃ t,(decide (f.mode=f.mode)&&(decide (f.time=f.time)&&(f.data==f.data)))=t:=⟨_,rfl⟩
   rw [ht]
   obtain rfl:t=true:=by
    rw [← ht]
    simp
   clear ht
   have HB6:=Lib.hid (HBB.out.trans (hb6.mono HBB.out.size))
   clear y0 y1 y2 hb6
   go_wp2_with fail
   go_roundw
   case rel=>exact ⟨k+1,by omega,by go_num,HB.out.trans (HB6.out.mono HB.out.size),HV.out.below HB6.out⟩
   case measure=>simp [intOf];omega
  ·obtain rfl:k=n:=by omega
   clear HV HLP HN HV3 HW2 HV2 HB2 HB3 HB1 HQ2 HV1
   go_wp2_with fail
   refine (user_any (H1.out.below HB.out) HUL.out (fun e he=>Nat.le_trans (HU.out e he) (by decide))).mono ?_
   rintro e wu ⟨vu,rfl,hou,hbu⟩
   obtain ⟨Au,ku,rfl,_,hku⟩:=evs_slice hou.tmp
   have HBU:=Lib.hid (HB.out.trans (hbu.mono HB.out.size))
   have HTU:=Lib.hid hou.tmp
   clear hou hbu
   go_wp2_with fail
   refine (ruser_any (H2.out.below HBU.out) (by rw [HSU.out];exact HUL.out)).mono ?_
   rw [HSU.out]
   rintro e wv ⟨vv,rfl,hov,hbv⟩
   obtain ⟨Av,kv,rfl,_,hkv⟩:=evs_slice hov.tmp
   have HBV:=Lib.hid (HBU.out.trans (hbv.mono HBU.out.size))
   have HTV:=Lib.hid hov.tmp
   replace HTU:=Lib.hid (TmpL.below (K:=evK) HTU.out hbv)
   clear hov hbv
   obtain ⟨us,hus⟩:∃ us,c.users=us:=⟨_,rfl⟩
   rw [hus] at HTU HTV ⊢
   obtain ⟨m,hm⟩:∃ m,us.length=m:=⟨_,rfl⟩
   rw [hm] at HTU HTV ⊢
   have HM:=Lib.hid hm
   have q6:((m:Int) != (m:Int))=false:=by simp
   unfold maxLen at hku hkv
   have hmk:m≤1000000:=by rw [← hm,← hus];exact HUL.out
   clear hus hm
   go_wp2_with fail
   go_loopw [13] (fun i wr=>∃ k:Nat,k≤m∧i=.int .i64 k∧Below wv.heap.size wv wr) (fun i _=>m - (intOf i).toNat)
   case atStart=>exact ⟨0,Nat.zero_le _,rfl,Below.refl _ _⟩
   case round =>
    obtain ⟨k,hk,rfl,hb⟩:=hrel
    have HBR:=Lib.hid hb
    have z0:(0:Int)≤(k:Int):=by omega
    by_cases hlt:k<m
    ·have z1:(k:Int)<(m:Int):=by omega
     have hkl:k<us.length:=by rw [HM.out];exact hlt
     obtain ⟨ev,hev⟩:∃ e,us[k]? = some e:=⟨_,List.getElem?_eq_getElem hkl⟩
     obtain ⟨ad,A7,c7,rfl,hx⟩:=EvRd.of HTU.out k ev hev
     obtain ⟨ad2,A8,c8,rfl,hy⟩:=EvRd.of HTV.out k ev hev
     have HX:=Lib.hid (hx.below hb)
     have HY:=Lib.hid (hy.below hb)
     obtain ⟨dl,hdl⟩:∃ l,ev.data.length=l:=⟨_,rfl⟩
     have x0:=HX.out.y0
     have x1:=HX.out.y1
     have x2:=HX.out.y2
     have x5:=HX.out.y5
     have x6:=HX.out.y6
     have y0:=HY.out.y0
     have y1:=HY.out.y1
     have y2:=HY.out.y2
     have y5:=HY.out.y5
     have y6:=HY.out.y6
     have hsx:=HX.out.sl
     have hsy:=HY.out.sl
     rw [hdl] at x6 y6 hsx hsy
     have HSX:=Lib.hid hsx
     have HSY:=Lib.hid hsy
     have HDL:=Lib.hid hdl
     obtain ⟨ea,hea⟩:∃ x,ev.at_=x:=⟨_,rfl⟩
     obtain ⟨ek,hek⟩:∃ x,ev.kind=x:=⟨_,rfl⟩
     obtain ⟨em,hem⟩:∃ x,ev.mode=x:=⟨_,rfl⟩
     obtain ⟨ep,hep⟩:∃ x,str ev.path=x:=⟨_,rfl⟩
     rw [hea] at x0 y0
     rw [hek] at x1 y1
     rw [hem] at x2 y2
     rw [hep] at x5 y5
     have HSC:=Lib.hid (And.intro x0 (And.intro x1 (And.intro x2 (And.intro x5 (And.intro x6 (And.intro y0 (And.intro y1 (And.intro y2 (And.intro y5 y6)))))))))
     have r1:(ea != ea)=false:=by simp
     have r2:(ek != ek)=false:=by simp
     have r3:(em != em)=false:=by simp
     have r4:(ep.toList==ep.toList)=true:=by simp
     clear hev hkl hdl hsx hsy hx hy HX HY hb hea hek hem hep x0 x1 x2 x5 x6 y0 y1 y2 y5 y6
     go_wp2_with fail
     -- STEPS
     refine wp_region_held_drew (S:=(fun W=>W.cell? (ad.add (k*7))=some (.int .i64 ea)∧W.cell? ⟨(ad.add (k*7)).block,(ad.add (k*7)).off+1,none⟩=some (.int .i64 ek)∧W.cell? ⟨(ad.add (k*7)).block,(ad.add (k*7)).off+2,none⟩=some (.int .i64 em)∧W.cell? ⟨(ad.add (k*7)).block,(ad.add (k*7)).off+5,none⟩=some (.string ep)∧W.cell? ⟨(ad.add (k*7)).block,(ad.add (k*7)).off+6,none⟩=some (.slice A7 dl c7)∧W.cell? (ad2.add (k*7))=some (.int .i64 ea)∧W.cell? ⟨(ad2.add (k*7)).block,(ad2.add (k*7)).off+1,none⟩=some (.int .i64 ek)∧W.cell? ⟨(ad2.add (k*7)).block,(ad2.add (k*7)).off+2,none⟩=some (.int .i64 em)∧W.cell? ⟨(ad2.add (k*7)).block,(ad2.add (k*7)).off+5,none⟩=some (.string ep)∧W.cell? ⟨(ad2.add (k*7)).block,(ad2.add (k*7)).off+6,none⟩=some (.slice A8 dl c8))) (by kernel_rfl) ?_ (fun hHeld=>?_)
     ·(try dsimp only);exact HSC.out
     refine take_at (i:=0) (d:=106) (oi:={ dst:=some 106,op:=Op.move (Operand.tmp 11),type:=33,pos := "law.go:99",after:=#[],guard:=none }) (v:=?_) (by kernel_rfl) (by kernel_rfl) (hy:=.inl ⟨by kernel_rfl,?_⟩) (h:=?_)
     rotate_left
     ·intro W hSw;(try dsimp only at hSw);go_simp;first | done | with_reducible rfl
     try simp only [Act.put,List.setIfInBounds_toArray,List.set_cons_zero,List.set_cons_succ]
     refine take_at (i:=1) (d:=107) (oi:={ dst:=some 107,op:=Op.move (Operand.tmp 13),type:=3,pos := "law.go:99",after:=#[],guard:=none }) (v:=?_) (by kernel_rfl) (by kernel_rfl) (hy:=.inl ⟨by kernel_rfl,?_⟩) (h:=?_)
     rotate_left
     ·intro W hSw;(try dsimp only at hSw);go_simp;first | done | with_reducible rfl
     try simp only [Act.put,List.setIfInBounds_toArray,List.set_cons_zero,List.set_cons_succ]
     refine take_at (i:=2) (d:=108) (oi:={ dst:=some 108,op:=Op.indexAddr 33 (Operand.tmp 106) (Operand.tmp 107),type:=0,pos := "law.go:99",after:=#[{ on:=0,ground:=Ground.data },{ on:=1,ground:=Ground.data }],guard:=none }) (v:=?_) (by kernel_rfl) (by kernel_rfl) (hy:=.inl ⟨by kernel_rfl,?_⟩) (h:=?_)
     rotate_left
     ·intro W hSw;(try dsimp only at hSw);go_simp;first | done | with_reducible rfl
     try simp only [Act.put,List.setIfInBounds_toArray,List.set_cons_zero,List.set_cons_succ]
     refine take_at (i:=3) (d:=109) (oi:={ dst:=some 109,op:=Op.fieldAddr 109 (Operand.tmp 108) 0,type:=0,pos := "law.go:99",after:=#[{ on:=2,ground:=Ground.data }],guard:=none }) (v:=?_) (by kernel_rfl) (by kernel_rfl) (hy:=.inl ⟨by kernel_rfl,?_⟩) (h:=?_)
     rotate_left
     ·intro W hSw;(try dsimp only at hSw);go_simp;first | done | with_reducible rfl
     try simp only [Act.put,List.setIfInBounds_toArray,List.set_cons_zero,List.set_cons_succ]
     refine take_at (i:=4) (d:=110) (oi:={ dst:=some 110,op:=Op.load 3 (Operand.tmp 109),type:=3,pos := "law.go:99",after:=#[{ on:=3,ground:=Ground.data }],guard:=none }) (v:=?_) (by kernel_rfl) (by kernel_rfl) (hy:=.inl ⟨by kernel_rfl,?_⟩) (h:=?_)
     rotate_left
     ·intro W hSw;(try dsimp only at hSw);go_simp;first | done | with_reducible rfl
     try simp only [Act.put,List.setIfInBounds_toArray,List.set_cons_zero,List.set_cons_succ]
     refine take_at (i:=5) (d:=111) (oi:={ dst:=some 111,op:=Op.move (Operand.tmp 12),type:=71,pos := "law.go:99",after:=#[],guard:=none }) (v:=?_) (by kernel_rfl) (by kernel_rfl) (hy:=.inl ⟨by kernel_rfl,?_⟩) (h:=?_)
     rotate_left
     ·intro W hSw;(try dsimp only at hSw);go_simp;first | done | with_reducible rfl
     try simp only [Act.put,List.setIfInBounds_toArray,List.set_cons_zero,List.set_cons_succ]
     refine take_at (i:=6) (d:=112) (oi:={ dst:=some 112,op:=Op.move (Operand.tmp 13),type:=3,pos := "law.go:99",after:=#[],guard:=none }) (v:=?_) (by kernel_rfl) (by kernel_rfl) (hy:=.inl ⟨by kernel_rfl,?_⟩) (h:=?_)
     rotate_left
     ·intro W hSw;(try dsimp only at hSw);go_simp;first | done | with_reducible rfl
     try simp only [Act.put,List.setIfInBounds_toArray,List.set_cons_zero,List.set_cons_succ]
     refine take_at (i:=7) (d:=113) (oi:={ dst:=some 113,op:=Op.indexAddr 71 (Operand.tmp 111) (Operand.tmp 112),type:=0,pos := "law.go:99",after:=#[{ on:=5,ground:=Ground.data },{ on:=6,ground:=Ground.data }],guard:=none }) (v:=?_) (by kernel_rfl) (by kernel_rfl) (hy:=.inl ⟨by kernel_rfl,?_⟩) (h:=?_)
     rotate_left
     ·intro W hSw;(try dsimp only at hSw);go_simp;first | done | with_reducible rfl
     try simp only [Act.put,List.setIfInBounds_toArray,List.set_cons_zero,List.set_cons_succ]
     refine take_at (i:=8) (d:=114) (oi:={ dst:=some 114,op:=Op.fieldAddr 110 (Operand.tmp 113) 0,type:=0,pos := "law.go:99",after:=#[{ on:=7,ground:=Ground.data }],guard:=none }) (v:=?_) (by kernel_rfl) (by kernel_rfl) (hy:=.inl ⟨by kernel_rfl,?_⟩) (h:=?_)
     rotate_left
     ·intro W hSw;(try dsimp only at hSw);go_simp;first | done | with_reducible rfl
     try simp only [Act.put,List.setIfInBounds_toArray,List.set_cons_zero,List.set_cons_succ]
     refine take_at (i:=9) (d:=115) (oi:={ dst:=some 115,op:=Op.load 3 (Operand.tmp 114),type:=3,pos := "law.go:99",after:=#[{ on:=8,ground:=Ground.data }],guard:=none }) (v:=?_) (by kernel_rfl) (by kernel_rfl) (hy:=.inl ⟨by kernel_rfl,?_⟩) (h:=?_)
     rotate_left
     ·intro W hSw;(try dsimp only at hSw);go_simp;first | done | with_reducible rfl
     try simp only [Act.put,List.setIfInBounds_toArray,List.set_cons_zero,List.set_cons_succ]
     refine take_at (i:=10) (d:=116) (oi:={ dst:=some 116,op:=Op.binOp BinOp.neq 3 (Operand.tmp 110) (Operand.tmp 115) 3,type:=4,pos := "law.go:99",after:=#[{ on:=4,ground:=Ground.data },{ on:=9,ground:=Ground.data }],guard:=none }) (v:=?_) (by kernel_rfl) (by kernel_rfl) (hy:=.inl ⟨by kernel_rfl,?_⟩) (h:=?_)
     rotate_left
     ·intro W hSw;(try dsimp only at hSw);go_simp;first | done | with_reducible rfl
     try simp only [Act.put,List.setIfInBounds_toArray,List.set_cons_zero,List.set_cons_succ]
     refine take_at (i:=11) (d:=117) (oi:={ dst:=some 117,op:=Op.move (Operand.tmp 116),type:=4,pos := "law.go:99",after:=#[{ on:=10,ground:=Ground.data }],guard:=none }) (v:=?_) (by kernel_rfl) (by kernel_rfl) (hy:=.inl ⟨by kernel_rfl,?_⟩) (h:=?_)
     rotate_left
     ·intro W hSw;(try dsimp only at hSw);go_simp;first | done | with_reducible rfl
     try simp only [Act.put,List.setIfInBounds_toArray,List.set_cons_zero,List.set_cons_succ]
     refine take_at (i:=12) (d:=118) (oi:={ dst:=some 118,op:=Op.move (Operand.tmp 11),type:=33,pos := "law.go:99",after:=#[{ on:=11,ground:=Ground.guard }],guard:=some (11,false) }) (v:=?_) (by kernel_rfl) (by kernel_rfl) (hy:=.inl ⟨by kernel_rfl,?_⟩) (h:=?_)
     rotate_left
     ·intro W hSw;(try dsimp only at hSw);go_simp;first | done | with_reducible rfl
     try simp only [Act.put,List.setIfInBounds_toArray,List.set_cons_zero,List.set_cons_succ]
     refine take_at (i:=13) (d:=119) (oi:={ dst:=some 119,op:=Op.move (Operand.tmp 13),type:=3,pos := "law.go:99",after:=#[{ on:=11,ground:=Ground.guard }],guard:=some (11,false) }) (v:=?_) (by kernel_rfl) (by kernel_rfl) (hy:=.inl ⟨by kernel_rfl,?_⟩) (h:=?_)
     rotate_left
     ·intro W hSw;(try dsimp only at hSw);go_simp;first | done | with_reducible rfl
     try simp only [Act.put,List.setIfInBounds_toArray,List.set_cons_zero,List.set_cons_succ]
     refine take_at (i:=14) (d:=120) (oi:={ dst:=some 120,op:=Op.indexAddr 33 (Operand.tmp 118) (Operand.tmp 119),type:=0,pos := "law.go:99",after:=#[{ on:=12,ground:=Ground.data },{ on:=13,ground:=Ground.data },{ on:=11,ground:=Ground.guard }],guard:=some (11,false) }) (v:=?_) (by kernel_rfl) (by kernel_rfl) (hy:=.inl ⟨by kernel_rfl,?_⟩) (h:=?_)
     rotate_left
     ·intro W hSw;(try dsimp only at hSw);go_simp;first | done | with_reducible rfl
     try simp only [Act.put,List.setIfInBounds_toArray,List.set_cons_zero,List.set_cons_succ]
     refine take_at (i:=15) (d:=121) (oi:={ dst:=some 121,op:=Op.fieldAddr 109 (Operand.tmp 120) 1,type:=0,pos := "law.go:99",after:=#[{ on:=14,ground:=Ground.data },{ on:=11,ground:=Ground.guard }],guard:=some (11,false) }) (v:=?_) (by kernel_rfl) (by kernel_rfl) (hy:=.inl ⟨by kernel_rfl,?_⟩) (h:=?_)
     rotate_left
     ·intro W hSw;(try dsimp only at hSw);go_simp;first | done | with_reducible rfl
     try simp only [Act.put,List.setIfInBounds_toArray,List.set_cons_zero,List.set_cons_succ]
     refine take_at (i:=16) (d:=122) (oi:={ dst:=some 122,op:=Op.load 3 (Operand.tmp 121),type:=3,pos := "law.go:99",after:=#[{ on:=15,ground:=Ground.data },{ on:=11,ground:=Ground.guard }],guard:=some (11,false) }) (v:=?_) (by kernel_rfl) (by kernel_rfl) (hy:=.inl ⟨by kernel_rfl,?_⟩) (h:=?_)
     rotate_left
     ·intro W hSw;(try dsimp only at hSw);go_simp;first | done | with_reducible rfl
     try simp only [Act.put,List.setIfInBounds_toArray,List.set_cons_zero,List.set_cons_succ]
     refine take_at (i:=17) (d:=123) (oi:={ dst:=some 123,op:=Op.move (Operand.tmp 12),type:=71,pos := "law.go:99",after:=#[{ on:=11,ground:=Ground.guard }],guard:=some (11,false) }) (v:=?_) (by kernel_rfl) (by kernel_rfl) (hy:=.inl ⟨by kernel_rfl,?_⟩) (h:=?_)
     rotate_left
     ·intro W hSw;(try dsimp only at hSw);go_simp;first | done | with_reducible rfl
     try simp only [Act.put,List.setIfInBounds_toArray,List.set_cons_zero,List.set_cons_succ]
     refine take_at (i:=18) (d:=124) (oi:={ dst:=some 124,op:=Op.move (Operand.tmp 13),type:=3,pos := "law.go:99",after:=#[{ on:=11,ground:=Ground.guard }],guard:=some (11,false) }) (v:=?_) (by kernel_rfl) (by kernel_rfl) (hy:=.inl ⟨by kernel_rfl,?_⟩) (h:=?_)
     rotate_left
     ·intro W hSw;(try dsimp only at hSw);go_simp;first | done | with_reducible rfl
     try simp only [Act.put,List.setIfInBounds_toArray,List.set_cons_zero,List.set_cons_succ]
     refine take_at (i:=19) (d:=125) (oi:={ dst:=some 125,op:=Op.indexAddr 71 (Operand.tmp 123) (Operand.tmp 124),type:=0,pos := "law.go:99",after:=#[{ on:=17,ground:=Ground.data },{ on:=18,ground:=Ground.data },{ on:=11,ground:=Ground.guard }],guard:=some (11,false) }) (v:=?_) (by kernel_rfl) (by kernel_rfl) (hy:=.inl ⟨by kernel_rfl,?_⟩) (h:=?_)
     rotate_left
     ·intro W hSw;(try dsimp only at hSw);go_simp;first | done | with_reducible rfl
     try simp only [Act.put,List.setIfInBounds_toArray,List.set_cons_zero,List.set_cons_succ]
     refine take_at (i:=20) (d:=126) (oi:={ dst:=some 126,op:=Op.fieldAddr 110 (Operand.tmp 125) 1,type:=0,pos := "law.go:99",after:=#[{ on:=19,ground:=Ground.data },{ on:=11,ground:=Ground.guard }],guard:=some (11,false) }) (v:=?_) (by kernel_rfl) (by kernel_rfl) (hy:=.inl ⟨by kernel_rfl,?_⟩) (h:=?_)
     rotate_left
     ·intro W hSw;(try dsimp only at hSw);go_simp;first | done | with_reducible rfl
     try simp only [Act.put,List.setIfInBounds_toArray,List.set_cons_zero,List.set_cons_succ]
     refine take_at (i:=21) (d:=127) (oi:={ dst:=some 127,op:=Op.load 3 (Operand.tmp 126),type:=3,pos := "law.go:99",after:=#[{ on:=20,ground:=Ground.data },{ on:=11,ground:=Ground.guard }],guard:=some (11,false) }) (v:=?_) (by kernel_rfl) (by kernel_rfl) (hy:=.inl ⟨by kernel_rfl,?_⟩) (h:=?_)
     rotate_left
     ·intro W hSw;(try dsimp only at hSw);go_simp;first | done | with_reducible rfl
     try simp only [Act.put,List.setIfInBounds_toArray,List.set_cons_zero,List.set_cons_succ]
     refine take_at (i:=22) (d:=128) (oi:={ dst:=some 128,op:=Op.binOp BinOp.neq 3 (Operand.tmp 122) (Operand.tmp 127) 3,type:=4,pos := "law.go:99",after:=#[{ on:=16,ground:=Ground.data },{ on:=21,ground:=Ground.data },{ on:=11,ground:=Ground.guard }],guard:=some (11,false) }) (v:=?_) (by kernel_rfl) (by kernel_rfl) (hy:=.inl ⟨by kernel_rfl,?_⟩) (h:=?_)
     rotate_left
     ·intro W hSw;(try dsimp only at hSw);go_simp;first | done | with_reducible rfl
     try simp only [Act.put,List.setIfInBounds_toArray,List.set_cons_zero,List.set_cons_succ]
     refine take_at (i:=23) (d:=129) (oi:={ dst:=some 129,op:=Op.pick (Operand.tmp 117) (Operand.const (Value.bool true)) (Operand.tmp 128),type:=4,pos := "law.go:99",after:=#[{ on:=11,ground:=Ground.data },{ on:=22,ground:=Ground.data }],guard:=none }) (v:=?_) (by kernel_rfl) (by kernel_rfl) (hy:=.inl ⟨by kernel_rfl,?_⟩) (h:=?_)
     rotate_left
     ·intro W hSw;(try dsimp only at hSw);go_simp;first | done | with_reducible rfl
     try simp only [Act.put,List.setIfInBounds_toArray,List.set_cons_zero,List.set_cons_succ]
     refine take_at (i:=24) (d:=130) (oi:={ dst:=some 130,op:=Op.move (Operand.tmp 129),type:=4,pos := "law.go:99",after:=#[{ on:=23,ground:=Ground.data },{ on:=11,ground:=Ground.chain }],guard:=none }) (v:=?_) (by kernel_rfl) (by kernel_rfl) (hy:=.inl ⟨by kernel_rfl,?_⟩) (h:=?_)
     rotate_left
     ·intro W hSw;(try dsimp only at hSw);go_simp;first | done | with_reducible rfl
     try simp only [Act.put,List.setIfInBounds_toArray,List.set_cons_zero,List.set_cons_succ]
     refine take_at (i:=25) (d:=131) (oi:={ dst:=some 131,op:=Op.move (Operand.tmp 11),type:=33,pos := "law.go:99",after:=#[{ on:=24,ground:=Ground.guard }],guard:=some (24,false) }) (v:=?_) (by kernel_rfl) (by kernel_rfl) (hy:=.inl ⟨by kernel_rfl,?_⟩) (h:=?_)
     rotate_left
     ·intro W hSw;(try dsimp only at hSw);go_simp;first | done | with_reducible rfl
     try simp only [Act.put,List.setIfInBounds_toArray,List.set_cons_zero,List.set_cons_succ]
     refine take_at (i:=26) (d:=132) (oi:={ dst:=some 132,op:=Op.move (Operand.tmp 13),type:=3,pos := "law.go:99",after:=#[{ on:=24,ground:=Ground.guard }],guard:=some (24,false) }) (v:=?_) (by kernel_rfl) (by kernel_rfl) (hy:=.inl ⟨by kernel_rfl,?_⟩) (h:=?_)
     rotate_left
     ·intro W hSw;(try dsimp only at hSw);go_simp;first | done | with_reducible rfl
     try simp only [Act.put,List.setIfInBounds_toArray,List.set_cons_zero,List.set_cons_succ]
     refine take_at (i:=27) (d:=133) (oi:={ dst:=some 133,op:=Op.indexAddr 33 (Operand.tmp 131) (Operand.tmp 132),type:=0,pos := "law.go:99",after:=#[{ on:=25,ground:=Ground.data },{ on:=26,ground:=Ground.data },{ on:=24,ground:=Ground.guard }],guard:=some (24,false) }) (v:=?_) (by kernel_rfl) (by kernel_rfl) (hy:=.inl ⟨by kernel_rfl,?_⟩) (h:=?_)
     rotate_left
     ·intro W hSw;(try dsimp only at hSw);go_simp;first | done | with_reducible rfl
     try simp only [Act.put,List.setIfInBounds_toArray,List.set_cons_zero,List.set_cons_succ]
     refine take_at (i:=28) (d:=134) (oi:={ dst:=some 134,op:=Op.fieldAddr 109 (Operand.tmp 133) 2,type:=0,pos := "law.go:99",after:=#[{ on:=27,ground:=Ground.data },{ on:=24,ground:=Ground.guard }],guard:=some (24,false) }) (v:=?_) (by kernel_rfl) (by kernel_rfl) (hy:=.inl ⟨by kernel_rfl,?_⟩) (h:=?_)
     rotate_left
     ·intro W hSw;(try dsimp only at hSw);go_simp;first | done | with_reducible rfl
     try simp only [Act.put,List.setIfInBounds_toArray,List.set_cons_zero,List.set_cons_succ]
     refine take_at (i:=29) (d:=135) (oi:={ dst:=some 135,op:=Op.load 3 (Operand.tmp 134),type:=3,pos := "law.go:99",after:=#[{ on:=28,ground:=Ground.data },{ on:=24,ground:=Ground.guard }],guard:=some (24,false) }) (v:=?_) (by kernel_rfl) (by kernel_rfl) (hy:=.inl ⟨by kernel_rfl,?_⟩) (h:=?_)
     rotate_left
     ·intro W hSw;(try dsimp only at hSw);go_simp;first | done | with_reducible rfl
     try simp only [Act.put,List.setIfInBounds_toArray,List.set_cons_zero,List.set_cons_succ]
     refine take_at (i:=30) (d:=136) (oi:={ dst:=some 136,op:=Op.move (Operand.tmp 12),type:=71,pos := "law.go:99",after:=#[{ on:=24,ground:=Ground.guard }],guard:=some (24,false) }) (v:=?_) (by kernel_rfl) (by kernel_rfl) (hy:=.inl ⟨by kernel_rfl,?_⟩) (h:=?_)
     rotate_left
     ·intro W hSw;(try dsimp only at hSw);go_simp;first | done | with_reducible rfl
     try simp only [Act.put,List.setIfInBounds_toArray,List.set_cons_zero,List.set_cons_succ]
     refine take_at (i:=31) (d:=137) (oi:={ dst:=some 137,op:=Op.move (Operand.tmp 13),type:=3,pos := "law.go:99",after:=#[{ on:=24,ground:=Ground.guard }],guard:=some (24,false) }) (v:=?_) (by kernel_rfl) (by kernel_rfl) (hy:=.inl ⟨by kernel_rfl,?_⟩) (h:=?_)
     rotate_left
     ·intro W hSw;(try dsimp only at hSw);go_simp;first | done | with_reducible rfl
     try simp only [Act.put,List.setIfInBounds_toArray,List.set_cons_zero,List.set_cons_succ]
     refine take_at (i:=32) (d:=138) (oi:={ dst:=some 138,op:=Op.indexAddr 71 (Operand.tmp 136) (Operand.tmp 137),type:=0,pos := "law.go:99",after:=#[{ on:=30,ground:=Ground.data },{ on:=31,ground:=Ground.data },{ on:=24,ground:=Ground.guard }],guard:=some (24,false) }) (v:=?_) (by kernel_rfl) (by kernel_rfl) (hy:=.inl ⟨by kernel_rfl,?_⟩) (h:=?_)
     rotate_left
     ·intro W hSw;(try dsimp only at hSw);go_simp;first | done | with_reducible rfl
     try simp only [Act.put,List.setIfInBounds_toArray,List.set_cons_zero,List.set_cons_succ]
     refine take_at (i:=33) (d:=139) (oi:={ dst:=some 139,op:=Op.fieldAddr 110 (Operand.tmp 138) 2,type:=0,pos := "law.go:99",after:=#[{ on:=32,ground:=Ground.data },{ on:=24,ground:=Ground.guard }],guard:=some (24,false) }) (v:=?_) (by kernel_rfl) (by kernel_rfl) (hy:=.inl ⟨by kernel_rfl,?_⟩) (h:=?_)
     rotate_left
     ·intro W hSw;(try dsimp only at hSw);go_simp;first | done | with_reducible rfl
     try simp only [Act.put,List.setIfInBounds_toArray,List.set_cons_zero,List.set_cons_succ]
     refine take_at (i:=34) (d:=140) (oi:={ dst:=some 140,op:=Op.load 3 (Operand.tmp 139),type:=3,pos := "law.go:99",after:=#[{ on:=33,ground:=Ground.data },{ on:=24,ground:=Ground.guard }],guard:=some (24,false) }) (v:=?_) (by kernel_rfl) (by kernel_rfl) (hy:=.inl ⟨by kernel_rfl,?_⟩) (h:=?_)
     rotate_left
     ·intro W hSw;(try dsimp only at hSw);go_simp;first | done | with_reducible rfl
     try simp only [Act.put,List.setIfInBounds_toArray,List.set_cons_zero,List.set_cons_succ]
     refine take_at (i:=35) (d:=141) (oi:={ dst:=some 141,op:=Op.binOp BinOp.neq 3 (Operand.tmp 135) (Operand.tmp 140) 3,type:=4,pos := "law.go:99",after:=#[{ on:=29,ground:=Ground.data },{ on:=34,ground:=Ground.data },{ on:=24,ground:=Ground.guard }],guard:=some (24,false) }) (v:=?_) (by kernel_rfl) (by kernel_rfl) (hy:=.inl ⟨by kernel_rfl,?_⟩) (h:=?_)
     rotate_left
     ·intro W hSw;(try dsimp only at hSw);go_simp;first | done | with_reducible rfl
     try simp only [Act.put,List.setIfInBounds_toArray,List.set_cons_zero,List.set_cons_succ]
     refine take_at (i:=36) (d:=142) (oi:={ dst:=some 142,op:=Op.pick (Operand.tmp 130) (Operand.const (Value.bool true)) (Operand.tmp 141),type:=4,pos := "law.go:99",after:=#[{ on:=24,ground:=Ground.data },{ on:=35,ground:=Ground.data }],guard:=none }) (v:=?_) (by kernel_rfl) (by kernel_rfl) (hy:=.inl ⟨by kernel_rfl,?_⟩) (h:=?_)
     rotate_left
     ·intro W hSw;(try dsimp only at hSw);go_simp;first | done | with_reducible rfl
     try simp only [Act.put,List.setIfInBounds_toArray,List.set_cons_zero,List.set_cons_succ]
     refine take_at (i:=37) (d:=143) (oi:={ dst:=some 143,op:=Op.move (Operand.tmp 142),type:=4,pos := "law.go:99",after:=#[{ on:=36,ground:=Ground.data },{ on:=24,ground:=Ground.chain }],guard:=none }) (v:=?_) (by kernel_rfl) (by kernel_rfl) (hy:=.inl ⟨by kernel_rfl,?_⟩) (h:=?_)
     rotate_left
     ·intro W hSw;(try dsimp only at hSw);go_simp;first | done | with_reducible rfl
     try simp only [Act.put,List.setIfInBounds_toArray,List.set_cons_zero,List.set_cons_succ]
     refine take_at (i:=38) (d:=144) (oi:={ dst:=some 144,op:=Op.move (Operand.tmp 11),type:=33,pos := "law.go:99",after:=#[{ on:=37,ground:=Ground.guard }],guard:=some (37,false) }) (v:=?_) (by kernel_rfl) (by kernel_rfl) (hy:=.inl ⟨by kernel_rfl,?_⟩) (h:=?_)
     rotate_left
     ·intro W hSw;(try dsimp only at hSw);go_simp;first | done | with_reducible rfl
     try simp only [Act.put,List.setIfInBounds_toArray,List.set_cons_zero,List.set_cons_succ]
     refine take_at (i:=39) (d:=145) (oi:={ dst:=some 145,op:=Op.move (Operand.tmp 13),type:=3,pos := "law.go:99",after:=#[{ on:=37,ground:=Ground.guard }],guard:=some (37,false) }) (v:=?_) (by kernel_rfl) (by kernel_rfl) (hy:=.inl ⟨by kernel_rfl,?_⟩) (h:=?_)
     rotate_left
     ·intro W hSw;(try dsimp only at hSw);go_simp;first | done | with_reducible rfl
     try simp only [Act.put,List.setIfInBounds_toArray,List.set_cons_zero,List.set_cons_succ]
     refine take_at (i:=40) (d:=146) (oi:={ dst:=some 146,op:=Op.indexAddr 33 (Operand.tmp 144) (Operand.tmp 145),type:=0,pos := "law.go:99",after:=#[{ on:=38,ground:=Ground.data },{ on:=39,ground:=Ground.data },{ on:=37,ground:=Ground.guard }],guard:=some (37,false) }) (v:=?_) (by kernel_rfl) (by kernel_rfl) (hy:=.inl ⟨by kernel_rfl,?_⟩) (h:=?_)
     rotate_left
     ·intro W hSw;(try dsimp only at hSw);go_simp;first | done | with_reducible rfl
     try simp only [Act.put,List.setIfInBounds_toArray,List.set_cons_zero,List.set_cons_succ]
     refine take_at (i:=41) (d:=147) (oi:={ dst:=some 147,op:=Op.fieldAddr 109 (Operand.tmp 146) 5,type:=0,pos := "law.go:99",after:=#[{ on:=40,ground:=Ground.data },{ on:=37,ground:=Ground.guard }],guard:=some (37,false) }) (v:=?_) (by kernel_rfl) (by kernel_rfl) (hy:=.inl ⟨by kernel_rfl,?_⟩) (h:=?_)
     rotate_left
     ·intro W hSw;(try dsimp only at hSw);go_simp;first | done | with_reducible rfl
     try simp only [Act.put,List.setIfInBounds_toArray,List.set_cons_zero,List.set_cons_succ]
     refine take_at (i:=42) (d:=148) (oi:={ dst:=some 148,op:=Op.load 9 (Operand.tmp 147),type:=9,pos := "law.go:99",after:=#[{ on:=41,ground:=Ground.data },{ on:=37,ground:=Ground.guard }],guard:=some (37,false) }) (v:=?_) (by kernel_rfl) (by kernel_rfl) (hy:=.inl ⟨by kernel_rfl,?_⟩) (h:=?_)
     rotate_left
     ·intro W hSw;(try dsimp only at hSw);go_simp;first | done | with_reducible rfl
     try simp only [Act.put,List.setIfInBounds_toArray,List.set_cons_zero,List.set_cons_succ]
     refine take_at (i:=43) (d:=149) (oi:={ dst:=some 149,op:=Op.move (Operand.tmp 12),type:=71,pos := "law.go:99",after:=#[{ on:=37,ground:=Ground.guard }],guard:=some (37,false) }) (v:=?_) (by kernel_rfl) (by kernel_rfl) (hy:=.inl ⟨by kernel_rfl,?_⟩) (h:=?_)
     rotate_left
     ·intro W hSw;(try dsimp only at hSw);go_simp;first | done | with_reducible rfl
     try simp only [Act.put,List.setIfInBounds_toArray,List.set_cons_zero,List.set_cons_succ]
     refine take_at (i:=44) (d:=150) (oi:={ dst:=some 150,op:=Op.move (Operand.tmp 13),type:=3,pos := "law.go:99",after:=#[{ on:=37,ground:=Ground.guard }],guard:=some (37,false) }) (v:=?_) (by kernel_rfl) (by kernel_rfl) (hy:=.inl ⟨by kernel_rfl,?_⟩) (h:=?_)
     rotate_left
     ·intro W hSw;(try dsimp only at hSw);go_simp;first | done | with_reducible rfl
     try simp only [Act.put,List.setIfInBounds_toArray,List.set_cons_zero,List.set_cons_succ]
     refine take_at (i:=45) (d:=151) (oi:={ dst:=some 151,op:=Op.indexAddr 71 (Operand.tmp 149) (Operand.tmp 150),type:=0,pos := "law.go:99",after:=#[{ on:=43,ground:=Ground.data },{ on:=44,ground:=Ground.data },{ on:=37,ground:=Ground.guard }],guard:=some (37,false) }) (v:=?_) (by kernel_rfl) (by kernel_rfl) (hy:=.inl ⟨by kernel_rfl,?_⟩) (h:=?_)
     rotate_left
     ·intro W hSw;(try dsimp only at hSw);go_simp;first | done | with_reducible rfl
     try simp only [Act.put,List.setIfInBounds_toArray,List.set_cons_zero,List.set_cons_succ]
     refine take_at (i:=46) (d:=152) (oi:={ dst:=some 152,op:=Op.fieldAddr 110 (Operand.tmp 151) 5,type:=0,pos := "law.go:99",after:=#[{ on:=45,ground:=Ground.data },{ on:=37,ground:=Ground.guard }],guard:=some (37,false) }) (v:=?_) (by kernel_rfl) (by kernel_rfl) (hy:=.inl ⟨by kernel_rfl,?_⟩) (h:=?_)
     rotate_left
     ·intro W hSw;(try dsimp only at hSw);go_simp;first | done | with_reducible rfl
     try simp only [Act.put,List.setIfInBounds_toArray,List.set_cons_zero,List.set_cons_succ]
     refine take_at (i:=47) (d:=153) (oi:={ dst:=some 153,op:=Op.load 9 (Operand.tmp 152),type:=9,pos := "law.go:99",after:=#[{ on:=46,ground:=Ground.data },{ on:=37,ground:=Ground.guard }],guard:=some (37,false) }) (v:=?_) (by kernel_rfl) (by kernel_rfl) (hy:=.inl ⟨by kernel_rfl,?_⟩) (h:=?_)
     rotate_left
     ·intro W hSw;(try dsimp only at hSw);go_simp;first | done | with_reducible rfl
     try simp only [Act.put,List.setIfInBounds_toArray,List.set_cons_zero,List.set_cons_succ]
     refine take_at (i:=48) (d:=154) (oi:={ dst:=some 154,op:=Op.binOp BinOp.neq 9 (Operand.tmp 148) (Operand.tmp 153) 9,type:=4,pos := "law.go:99",after:=#[{ on:=42,ground:=Ground.data },{ on:=47,ground:=Ground.data },{ on:=37,ground:=Ground.guard }],guard:=some (37,false) }) (v:=?_) (by kernel_rfl) (by kernel_rfl) (hy:=.inl ⟨by kernel_rfl,?_⟩) (h:=?_)
     rotate_left
     ·intro W hSw;(try dsimp only at hSw);go_simp;first | done | with_reducible rfl
     try simp only [Act.put,List.setIfInBounds_toArray,List.set_cons_zero,List.set_cons_succ]
     refine take_at (i:=49) (d:=155) (oi:={ dst:=some 155,op:=Op.pick (Operand.tmp 143) (Operand.const (Value.bool true)) (Operand.tmp 154),type:=4,pos := "law.go:99",after:=#[{ on:=37,ground:=Ground.data },{ on:=48,ground:=Ground.data }],guard:=none }) (v:=?_) (by kernel_rfl) (by kernel_rfl) (hy:=.inl ⟨by kernel_rfl,?_⟩) (h:=?_)
     rotate_left
     ·intro W hSw;(try dsimp only at hSw);go_simp;first | done | with_reducible rfl
     try simp only [Act.put,List.setIfInBounds_toArray,List.set_cons_zero,List.set_cons_succ]
     refine take_at (i:=50) (d:=156) (oi:={ dst:=some 156,op:=Op.move (Operand.tmp 155),type:=4,pos := "law.go:99",after:=#[{ on:=49,ground:=Ground.data },{ on:=37,ground:=Ground.chain }],guard:=none }) (v:=?_) (by kernel_rfl) (by kernel_rfl) (hy:=.inl ⟨by kernel_rfl,?_⟩) (h:=?_)
     rotate_left
     ·intro W hSw;(try dsimp only at hSw);go_simp;first | done | with_reducible rfl
     try simp only [Act.put,List.setIfInBounds_toArray,List.set_cons_zero,List.set_cons_succ]
     refine take_at (i:=51) (d:=157) (oi:={ dst:=some 157,op:=Op.move (Operand.tmp 11),type:=33,pos := "law.go:99",after:=#[{ on:=50,ground:=Ground.guard }],guard:=some (50,false) }) (v:=?_) (by kernel_rfl) (by kernel_rfl) (hy:=.inl ⟨by kernel_rfl,?_⟩) (h:=?_)
     rotate_left
     ·intro W hSw;(try dsimp only at hSw);go_simp;first | done | with_reducible rfl
     try simp only [Act.put,List.setIfInBounds_toArray,List.set_cons_zero,List.set_cons_succ]
     refine take_at (i:=52) (d:=158) (oi:={ dst:=some 158,op:=Op.move (Operand.tmp 13),type:=3,pos := "law.go:99",after:=#[{ on:=50,ground:=Ground.guard }],guard:=some (50,false) }) (v:=?_) (by kernel_rfl) (by kernel_rfl) (hy:=.inl ⟨by kernel_rfl,?_⟩) (h:=?_)
     rotate_left
     ·intro W hSw;(try dsimp only at hSw);go_simp;first | done | with_reducible rfl
     try simp only [Act.put,List.setIfInBounds_toArray,List.set_cons_zero,List.set_cons_succ]
     refine take_at (i:=53) (d:=159) (oi:={ dst:=some 159,op:=Op.indexAddr 33 (Operand.tmp 157) (Operand.tmp 158),type:=0,pos := "law.go:99",after:=#[{ on:=51,ground:=Ground.data },{ on:=52,ground:=Ground.data },{ on:=50,ground:=Ground.guard }],guard:=some (50,false) }) (v:=?_) (by kernel_rfl) (by kernel_rfl) (hy:=.inl ⟨by kernel_rfl,?_⟩) (h:=?_)
     rotate_left
     ·intro W hSw;(try dsimp only at hSw);go_simp;first | done | with_reducible rfl
     try simp only [Act.put,List.setIfInBounds_toArray,List.set_cons_zero,List.set_cons_succ]
     refine take_at (i:=54) (d:=160) (oi:={ dst:=some 160,op:=Op.fieldAddr 109 (Operand.tmp 159) 6,type:=0,pos := "law.go:99",after:=#[{ on:=53,ground:=Ground.data },{ on:=50,ground:=Ground.guard }],guard:=some (50,false) }) (v:=?_) (by kernel_rfl) (by kernel_rfl) (hy:=.inl ⟨by kernel_rfl,?_⟩) (h:=?_)
     rotate_left
     ·intro W hSw;(try dsimp only at hSw);go_simp;first | done | with_reducible rfl
     try simp only [Act.put,List.setIfInBounds_toArray,List.set_cons_zero,List.set_cons_succ]
     refine take_at (i:=55) (d:=161) (oi:={ dst:=some 161,op:=Op.load 32 (Operand.tmp 160),type:=32,pos := "law.go:99",after:=#[{ on:=54,ground:=Ground.data },{ on:=50,ground:=Ground.guard }],guard:=some (50,false) }) (v:=?_) (by kernel_rfl) (by kernel_rfl) (hy:=.inl ⟨by kernel_rfl,?_⟩) (h:=?_)
     rotate_left
     ·intro W hSw;(try dsimp only at hSw);go_simp;first | done | with_reducible rfl
     try simp only [Act.put,List.setIfInBounds_toArray,List.set_cons_zero,List.set_cons_succ]
     refine take_at (i:=56) (d:=162) (oi:={ dst:=some 162,op:=Op.move (Operand.tmp 12),type:=71,pos := "law.go:99",after:=#[{ on:=50,ground:=Ground.guard }],guard:=some (50,false) }) (v:=?_) (by kernel_rfl) (by kernel_rfl) (hy:=.inl ⟨by kernel_rfl,?_⟩) (h:=?_)
     rotate_left
     ·intro W hSw;(try dsimp only at hSw);go_simp;first | done | with_reducible rfl
     try simp only [Act.put,List.setIfInBounds_toArray,List.set_cons_zero,List.set_cons_succ]
     refine take_at (i:=57) (d:=163) (oi:={ dst:=some 163,op:=Op.move (Operand.tmp 13),type:=3,pos := "law.go:99",after:=#[{ on:=50,ground:=Ground.guard }],guard:=some (50,false) }) (v:=?_) (by kernel_rfl) (by kernel_rfl) (hy:=.inl ⟨by kernel_rfl,?_⟩) (h:=?_)
     rotate_left
     ·intro W hSw;(try dsimp only at hSw);go_simp;first | done | with_reducible rfl
     try simp only [Act.put,List.setIfInBounds_toArray,List.set_cons_zero,List.set_cons_succ]
     refine take_at (i:=58) (d:=164) (oi:={ dst:=some 164,op:=Op.indexAddr 71 (Operand.tmp 162) (Operand.tmp 163),type:=0,pos := "law.go:99",after:=#[{ on:=56,ground:=Ground.data },{ on:=57,ground:=Ground.data },{ on:=50,ground:=Ground.guard }],guard:=some (50,false) }) (v:=?_) (by kernel_rfl) (by kernel_rfl) (hy:=.inl ⟨by kernel_rfl,?_⟩) (h:=?_)
     rotate_left
     ·intro W hSw;(try dsimp only at hSw);go_simp;first | done | with_reducible rfl
     try simp only [Act.put,List.setIfInBounds_toArray,List.set_cons_zero,List.set_cons_succ]
     refine take_at (i:=59) (d:=165) (oi:={ dst:=some 165,op:=Op.fieldAddr 110 (Operand.tmp 164) 6,type:=0,pos := "law.go:99",after:=#[{ on:=58,ground:=Ground.data },{ on:=50,ground:=Ground.guard }],guard:=some (50,false) }) (v:=?_) (by kernel_rfl) (by kernel_rfl) (hy:=.inl ⟨by kernel_rfl,?_⟩) (h:=?_)
     rotate_left
     ·intro W hSw;(try dsimp only at hSw);go_simp;first | done | with_reducible rfl
     try simp only [Act.put,List.setIfInBounds_toArray,List.set_cons_zero,List.set_cons_succ]
     refine take_at (i:=60) (d:=166) (oi:={ dst:=some 166,op:=Op.load 32 (Operand.tmp 165),type:=32,pos := "law.go:99",after:=#[{ on:=59,ground:=Ground.data },{ on:=50,ground:=Ground.guard }],guard:=some (50,false) }) (v:=?_) (by kernel_rfl) (by kernel_rfl) (hy:=.inl ⟨by kernel_rfl,?_⟩) (h:=?_)
     rotate_left
     ·intro W hSw;(try dsimp only at hSw);go_simp;first | done | with_reducible rfl
     try simp only [Act.put,List.setIfInBounds_toArray,List.set_cons_zero,List.set_cons_succ]
     refine wpAnyH_ready (rs:=[61]) (by kernel_rfl) (by simp) (AllReadyH.cons (o:={ dst:=some 167,op:=Op.call { callee:=Callee.value (Operand.func 66),args:=#[Operand.tmp 161,Operand.tmp 166],argTypes:=#[32,32] },type:=4,pos := "law.go:99",after:=#[{ on:=55,ground:=Ground.data },{ on:=60,ground:=Ground.data },{ on:=50,ground:=Ground.chain },{ on:=50,ground:=Ground.guard }],guard:=some (50,false) }) (by kernel_rfl) (fun K hK=>?_) AllReadyH.nil)
     go_simp
     refine (tbytes_any A7 A8 dl dl c7 c8 ev.data ev.data _ HDL.out HDL.out (HSX.out.below ((Below.refl _ _).drew)) (HSY.out.below ((Below.refl _ _).drew)) true (by simp)).mono ?_
     rintro e w9 ⟨rfl,rfl⟩
     try go_wp2_with fail
     refine hK.out _ _ ?_ (fun hHeld=>?_)
     ·(try dsimp only);exact HSC.out
     clear hK K
     try simp only [Act.put,List.setIfInBounds_toArray,List.set_cons_zero,List.set_cons_succ]
     refine take_at (i:=62) (d:=168) (oi:={ dst:=some 168,op:=Op.unOp UnOp.not 4 (Operand.tmp 167),type:=4,pos := "law.go:99",after:=#[{ on:=61,ground:=Ground.data },{ on:=50,ground:=Ground.guard }],guard:=some (50,false) }) (v:=?_) (by kernel_rfl) (by kernel_rfl) (hy:=.inl ⟨by kernel_rfl,?_⟩) (h:=?_)
     rotate_left
     ·intro W hSw;(try dsimp only at hSw);go_simp;first | done | with_reducible rfl
     try simp only [Act.put,List.setIfInBounds_toArray,List.set_cons_zero,List.set_cons_succ]
     refine take_at (i:=63) (d:=169) (oi:={ dst:=some 169,op:=Op.pick (Operand.tmp 156) (Operand.const (Value.bool true)) (Operand.tmp 168),type:=4,pos := "law.go:99",after:=#[{ on:=50,ground:=Ground.data },{ on:=62,ground:=Ground.data }],guard:=none }) (v:=?_) (by kernel_rfl) (by kernel_rfl) (hy:=.inl ⟨by kernel_rfl,?_⟩) (h:=?_)
     rotate_left
     ·intro W hSw;(try dsimp only at hSw);go_simp;first | done | with_reducible rfl
     try simp only [Act.put,List.setIfInBounds_toArray,List.set_cons_zero,List.set_cons_succ]
     refine wpAnyH_done (by kernel_rfl) ?_ _
     -- END STEPS
     go_wp2_with fail
     go_roundw
     case rel=>exact ⟨k+1,by omega,by go_num,HBR.out.drew⟩
     case measure=>simp [intOf];omega
    ·obtain rfl:k=m:=by omega
     clear hb
     go_wp2_with fail
     go_ret
     exact ⟨rfl,HBV.out.trans (HBR.out.mono HBV.out.size)⟩
end Go.Proofs.YtlkolcokjmlmjaaGreat.Tx
