/- Texts put together: VFx14, VFm6, VFm7, VFm8, VGm0. -/
import Derived.Test.YtlkolcokjmlmjaaGreatQv10
namespace Go.Proofs.YtlkolcokjmlmjaaGreat.Tx
open Go.RowKit Go.Proofs.YtlkolcokjmlmjaaGreat.Sh
structure Ready (st:FSM) (N:Nat):Prop where
 fits:Fits st N
 big:N+2*st.plan.length≤800000
 calls:0≤st.calls∧st.calls≤4000000000000
 paths:∀ e∈st.plan,e.path.length≤1000000
structure Small (s:FSM):Prop where
 now:s.now.length≤900000
 pending:s.pending.length≤900000
 sure:s.sure.length≤900000
 user:s.user.length≤900000
 time:0≤s.time∧s.time≤4000000000000
 used:usedM s.now≤4000000000000
 nrow:∀ r∈s.now,r.path.length≤1000000
 ndat:∀ r∈s.now,r.f.data.length≤1000000
 both:s.sure.length+s.pending.length≤900000
 prow:∀ o∈s.pending,o.f.data.length≤1000000
theorem Fits.small {s:FSM} {N:Nat} (h:Fits s N) (hN:N≤900000):Small s :=
 ⟨Nat.le_trans h.now hN,by have:=h.both;omega,by have:=h.both;omega,Nat.le_trans h.user hN,⟨h.time0,by have:=h.time;omega⟩,h.used (by omega),fun r hr=>by have:=(h.nrow r hr).1;omega,fun r hr=>by have:=(h.nrow r hr).2;omega,by have:=h.both;omega,fun o ho=>by have:=(h.prow o ho).2;omega⟩
theorem Ready.begun {st:FSM} {N:Nat} (h:Ready st N):Fits (beginM st).st (N+2*st.plan.length):=h.fits.beg _
theorem Ready.small {st:FSM} {N:Nat} (h:Ready st N):Small (beginM st).st:=h.begun.small (by have:=h.big;omega)
def moveE0 (s:FSM) (fr tt:List UInt8) (only:Bool):Int :=
 if pathB fr=false∨pathB tt=false then 6
 else if (findM s.now fr).isNone=true then 7
 else if only=true∧(findM s.now tt).isSome=true then 8
 else if fr=tt then 0
 else if (findM s.now tt).isNone=true∧mayM (withoutM s.now fr) tt=false then 9
 else 0
def moveM0 (s:FSM) (fr tt:List UInt8) (only:Bool):FSM:=if moveE0 s fr tt only=0∧fr≠tt then changeM s ⟨2,fr,tt,⟨0,[],0⟩⟩ else s
def moveE (st:FSM) (fr tt:List UInt8) (only:Bool):Int:=if beginE st=0 then moveE0 (beginM st).st fr tt only else beginE st
def moveM (st:FSM) (fr tt:List UInt8) (only:Bool):FSM:=if beginE st=0 then moveM0 (beginM st).st fr tt only else (beginM st).st
theorem move_no {st:FSM} {fr tt:List UInt8} {only:Bool} {n:Int} (h0:beginE st=0) (h:moveE0 (beginM st).st fr tt only=n) (hn:n≠0∨fr=tt):moveE st fr tt only=n∧moveM st fr tt only=(beginM st).st:=by
 refine ⟨by unfold moveE;rw [if_pos h0,h],?_⟩
 unfold moveM moveM0
 rw [if_pos h0,if_neg]
 rintro ⟨h1,h2⟩
 rcases hn with hn | hn
 ·exact hn (h.symm.trans h1)
 ·exact h2 hn
theorem findZ_neg {R:List RowM} {p:List UInt8} (h:(findM R p).isNone=true):findZ R p=-1:=findZ_none (by simpa using h)
theorem findZ_nn {R:List RowM} {p:List UInt8} (h:(findM R p).isNone=false):∃ i:Nat,findZ R p=(i:Int):=by
 cases hf:findM R p with
 | none=>rw [hf] at h;cases h
 | some i=>exact ⟨i,findZ_some hf⟩
set_option maxRecDepth 100000 in
set_option maxHeartbeats 6400000 in
theorem rmove_any (F M : Nat → Prop) (b : Nat) (st : FSM) (N : Nat) (fr tt : List UInt8) (only : Bool) (w : World) (h : RefAt F w b st M) (hr : Ready st N) (hf : fr.length ≤ 1000000) (ht : tt.length ≤ 1000000) :
  Calls Tryz.prog 97 #[.pointer (some ⟨b,0,none⟩),.string (str fr),.string (str tt),.bool only] w fun e w'=>e=.returned (.int .i64 (moveE st fr tt only))∧FsPost F M w b (moveM st fr tt only) w':=by
 have H:=Lib.hid h
 have HR:=Lib.hid hr
 have HS:=Lib.hid hr.small
 clear h hr
 obtain ⟨be,hbe⟩:∃ be,beginE st=be:=⟨_,rfl⟩
 have HBE:=Lib.hid hbe
 obtain ⟨t1,ht1⟩:∃ t,pathB fr=t:=⟨_,rfl⟩
 obtain ⟨t2,ht2⟩:∃ t,pathB tt=t:=⟨_,rfl⟩
 have HT1:=Lib.hid ht1
 have HT2:=Lib.hid ht2
 clear hbe ht1 ht2
 go_enter Tryz.func97,Tryz.ntmps97
 go_wp2_with fail
 refine (rbegin_any F M b st N _ H.out HR.out.fits (by have:=HR.out.big;omega) HR.out.calls HR.out.paths).mono ?_
 rintro e w1 ⟨rfl,hpost⟩
 rw [HBE.out]
 obtain ⟨s,hs⟩:∃ s,(beginM st).st=s:=⟨_,rfl⟩
 have HSS:=Lib.hid hs
 have hpost1:=hpost
 rw [hs] at hpost1
 have HP1:=Lib.hid hpost1
 obtain ⟨M1,hat,hon,hsub⟩:=hpost1
 have HSM:Hid (Small s):=by rw [← hs];exact HS.out
 have HAT:=Lib.hid hat
 have HON:=Lib.hid hon
 have HSUB:=Lib.hid hsub
 obtain ⟨x,hX,hM⟩:=hat
 have c1:w1.cell? ⟨b,1,none⟩=some x.now:=hX.blk.cell 1
 have HX:=Lib.hid hX
 clear hX hM hon hsub hpost hs
 obtain ⟨fu,hfu⟩:∃ fu,(beginM st).full=fu:=⟨_,rfl⟩
 rw [hfu]
 clear hfu
 obtain ⟨i,hi⟩:∃ i,findZ s.now fr=i:=⟨_,rfl⟩
 obtain ⟨k,hk⟩:∃ k,findZ s.now tt=k:=⟨_,rfl⟩
 have HI:=Lib.hid hi
 have HK:=Lib.hid hk
 clear hi hk
 go_upto_region 2 with (fail)
 go_quiet ((go_at_call 118;exact Calls.quiet_of_same ((rfind_any _ x.now s.now _ _ (by exact HX.out.now)).mono fun _ _ h=>⟨h.1,h.2.symm⟩)))
 generalize hwd:w1.drewN nq=wd
 have HB0:Hid (Below w1.heap.size w1 wd):=by rw [← hwd];exact below_drewN (Below.refl _ _) _
 clear hwd
 rw [HI.out,HK.out]
 have HFIN:Hid (∀ s2 w2 w3,Below w1.heap.size w1 w2→FsPost (grow F w w1 M1) M1 w2 b s2 w3→FsPost F M w b s2 w3):=fun _ _ _ hb h=>FsPost.trans HON.out HSUB.out (FsPost.of_below hb h)
 have HSTAY:Hid (∀ w2,Below w1.heap.size w1 w2→FsPost F M w b s w2):=fun w2 hb=>HFIN.out _ _ _ hb (FsPost.refl (HAT.out.below hb))
 have HZ0:=HB0.out.size
 by_cases hb0:be=0
 ·subst hb0
  have HNO:Hid (∀ n,moveE0 s fr tt only=n→(n≠0∨fr=tt)→moveE st fr tt only=n∧moveM st fr tt only=s):=fun n h1 h2=>by
   have h:=move_no (only:=only) HBE.out (by rw [HSS.out];exact h1) h2
   rw [HSS.out] at h
   exact h
  go_wp2_with fail
  refine (rpath_any fr _ hf).mono ?_
  rintro e w2 ⟨rfl,hb2⟩
  rw [HT1.out]
  have HB2:=Lib.hid (HB0.out.trans (hb2.mono HZ0))
  have HZ2:=HB2.out.size
  clear hb2
  cases t1 with
  | false =>
   have HE:=Lib.hid (HNO.out 6 (by unfold moveE0;rw [if_pos (.inl HT1.out)]) (.inl (by decide)))
   go_wp2_with fail
   go_ret
   exact ⟨by rw [HE.out.1];rfl,by rw [HE.out.2];exact HSTAY.out _ HB2.out⟩
  | true =>
   go_wp2_with fail
   refine (rpath_any tt _ ht).mono ?_
   rintro e w3 ⟨rfl,hb3⟩
   rw [HT2.out]
   have HB3:=Lib.hid (HB2.out.trans (hb3.mono HZ2))
   have HZ3:=HB3.out.size
   clear hb3
   cases t2 with
   | false =>
    have HE:=Lib.hid (HNO.out 6 (by unfold moveE0;rw [if_pos (.inr HT2.out)]) (.inl (by decide)))
    go_wp2_with fail
    go_ret
    exact ⟨by rw [HE.out.1];rfl,by rw [HE.out.2];exact HSTAY.out _ HB3.out⟩
   | true =>
    have hpp:¬ (pathB fr=false∨pathB tt=false):=by rw [HT1.out,HT2.out];decide
    have HPP:=Lib.hid hpp
    clear hpp
    cases hfi:(findM s.now fr).isNone with
    | true =>
     have HE:=Lib.hid (HNO.out 7 (by unfold moveE0;rw [if_neg HPP.out,if_pos hfi]) (.inl (by decide)))
     obtain rfl:i=-1:=by rw [← HI.out];exact findZ_neg hfi
     clear hfi
     go_wp2_with fail
     go_ret
     exact ⟨by rw [HE.out.1];rfl,by rw [HE.out.2];exact HSTAY.out _ HB3.out⟩
    | false =>
     obtain ⟨j,hj⟩:=findZ_nn hfi
     obtain rfl:i=(j:Int):=by rw [← HI.out];exact hj
     have HFI:Hid (¬ (findM s.now fr).isNone=true):=fun h=>by rw [hfi] at h;cases h
     have j0:(0:Int)≤(j:Int):=by omega
     clear hfi hj
     obtain ⟨kn,hkn⟩:∃ kn,(findM s.now tt).isNone=kn:=⟨_,rfl⟩
     obtain ⟨sb,hsb⟩:∃ sb:Bool,decide (k<0)=sb:=⟨_,rfl⟩
     have hks:kn=sb:=by
      rw [← hkn,← hsb]
      cases hz:(findM s.now tt).isNone with
      | true=>rw [← HK.out,findZ_neg hz];rfl
      | false=>obtain ⟨q,hq⟩:=findZ_nn hz;rw [← HK.out,hq];exact (decide_eq_false (by omega)).symm
     subst hks
     have HKN:=Lib.hid hkn
     have HKS:Hid ((findM s.now tt).isSome=!kn):=by unfold Hid;rw [← hkn];cases findM s.now tt <;> rfl
     clear hkn
     have hk0:kn=true∧k<0∨kn=false∧0≤k:=by
      cases kn with
      | true=>exact .inl ⟨rfl,of_decide_eq_true hsb⟩
      | false=>exact .inr ⟨rfl,by have:=of_decide_eq_false hsb;omega⟩
     clear hsb
     by_cases hoe:only=true∧kn=false
     ·obtain ⟨rfl,rfl⟩:=hoe
      have k0:0≤k:=by
       rcases hk0 with h | h
       ·exact absurd h.1 (by decide)
       ·exact h.2
      have HE:=Lib.hid (HNO.out 8 (by unfold moveE0;rw [if_neg HPP.out,if_neg HFI.out,if_pos ⟨rfl,HKS.out⟩]) (.inl (by decide)))
      clear hk0
      go_wp2_with fail
      go_ret
      exact ⟨by rw [HE.out.1];rfl,by rw [HE.out.2];exact HSTAY.out _ HB3.out⟩
     ·have HOE : Hid (¬ (only = true ∧ (findM s.now tt).isSome = true)) := fun h => hoe ⟨h.1, by have h2 := HKS.out.symm.trans h.2; cases kn with
       | true=>cases h2
       | false=>rfl⟩
      obtain ⟨x3,hX3,_⟩:=HAT.out.below HB3.out
      have c13:w3.cell? ⟨b,1,none⟩=some x3.now:=hX3.blk.cell 1
      have HX3:=Lib.hid hX3
      clear hX3 c1
      go_upto_region 9 with (fail)
      go_cut [46] (fun c wx=>c=.bool false∧w3=wx)
      case first =>
       cases only with
       | false =>
        go_wp2_with fail
        go_meet
        exact ⟨rfl,rfl⟩
       | true =>
        have k0:k<0:=by
         rcases hk0 with h | h
         ·exact h.2
         ·exact absurd ⟨rfl,h.1⟩ hoe
        clear hoe hk0
        go_wp2_with fail
        go_meet
        exact ⟨by rw [decide_eq_false (by omega)],rfl⟩
      case rest =>
       obtain ⟨rfl,rfl⟩:=hcut
       clear hoe
       by_cases hft:fr=tt
       ·have HE:=Lib.hid (HNO.out 0 (by unfold moveE0;rw [if_neg HPP.out,if_neg HFI.out,if_neg HOE.out,if_pos hft]) (.inr hft))
        have e1:=str_eq' hft
        clear hft
        go_wp2_with fail
        go_ret
        exact ⟨by rw [HE.out.1];rfl,by rw [HE.out.2];exact HSTAY.out _ HB3.out⟩
       ·have HFT:=Lib.hid hft
        have e1:=str_ne hft
        have HGO:Hid (moveE0 s fr tt only=0→moveE st fr tt only=0∧moveM st fr tt only=changeM s ⟨2,fr,tt,⟨0,[],0⟩⟩):=fun h=>by
         refine ⟨by unfold moveE;rw [if_pos HBE.out,HSS.out,h],?_⟩
         unfold moveM moveM0
         rw [if_pos HBE.out,HSS.out,if_pos ⟨h,HFT.out⟩]
        clear hft
        rcases hk0 with ⟨rfl,k0⟩ | ⟨rfl,k0⟩
        ·obtain ⟨mb,hmb⟩:∃ mb,mayM (withoutM s.now fr) tt=mb:=⟨_,rfl⟩
         have HMB:=Lib.hid hmb
         clear hmb
         go_wp2_with fail
         refine (rwithout_any _ x3.now s.now fr _ HX3.out.now (by have:=HSM.out.now;omega) HX3.out.low).mono ?_
         rintro e w4 ⟨v4,rfl,ho4,hb4⟩
         have HO4:=Lib.hid ho4
         have HB4:=Lib.hid (HB3.out.trans (hb4.mono HZ3))
         have HZ4:=HB4.out.size
         clear ho4 hb4
         go_wp2_with fail
         refine (rmay_any _ v4 (withoutM s.now fr) tt _ HO4.out.rin ht (fun r hr=>HSM.out.nrow r (without_sub hr))).mono ?_
         rintro e w5 ⟨rfl,hb5⟩
         rw [HMB.out]
         have HB5:=Lib.hid (HB4.out.trans (hb5.mono HZ4))
         clear hb5
         cases mb with
         | false =>
          have HE:=Lib.hid (HNO.out 9 (by unfold moveE0;rw [if_neg HPP.out,if_neg HFI.out,if_neg HOE.out,if_neg HFT.out,if_pos ⟨HKN.out,HMB.out⟩]) (.inl (by decide)))
          go_wp2_with fail
          go_ret
          exact ⟨by rw [HE.out.1];rfl,by rw [HE.out.2];exact HSTAY.out _ HB5.out⟩
         | true =>
          have HE:=Lib.hid (HGO.out (by unfold moveE0;rw [if_neg HPP.out,if_neg HFI.out,if_neg HOE.out,if_neg HFT.out,if_neg (fun h=>by rw [HMB.out] at h;exact absurd h.2 (by decide))]))
          go_wp2_with fail
          refine (rchange_any _ M1 b s ⟨2,fr,tt,⟨0,[],0⟩⟩ (.slice none 0 0) _ (HAT.out.below HB5.out) (By.nil_ _ _) HSM.out.time (by have:=HSM.out.now;omega) (by have:=HSM.out.pending;omega)).mono ?_
          rintro e w6 ⟨rfl,hpost⟩
          have HP:=Lib.hid (HFIN.out _ _ _ HB5.out hpost)
          clear hpost
          go_wp2_with fail
          go_ret
          exact ⟨by rw [HE.out.1];rfl,by rw [HE.out.2];exact HP.out⟩
        ·have HE:=Lib.hid (HGO.out (by unfold moveE0;rw [if_neg HPP.out,if_neg HFI.out,if_neg HOE.out,if_neg HFT.out,if_neg (fun h=>by rw [HKN.out] at h;exact absurd h.1 (by decide))]))
         go_wp2_with fail
         refine (rchange_any _ M1 b s ⟨2,fr,tt,⟨0,[],0⟩⟩ (.slice none 0 0) _ (HAT.out.below HB3.out) (By.nil_ _ _) HSM.out.time (by have:=HSM.out.now;omega) (by have:=HSM.out.pending;omega)).mono ?_
         rintro e w4 ⟨rfl,hpost⟩
         have HP:=Lib.hid (HFIN.out _ _ _ HB3.out hpost)
         clear hpost
         go_wp2_with fail
         go_ret
         exact ⟨by rw [HE.out.1];rfl,by rw [HE.out.2];exact HP.out⟩
 ·have e1:(be==0)=false:=by rw [beq_eq_false_iff_ne];exact hb0
  have HE:Hid (moveE st fr tt only=be∧moveM st fr tt only=s):=⟨by unfold moveE;rw [HBE.out,if_neg hb0],by unfold moveM;rw [HBE.out,if_neg hb0];exact HSS.out⟩
  clear hb0
  go_wp2_with fail
  go_ret
  exact ⟨by rw [HE.out.1];rfl,by rw [HE.out.2];exact HSTAY.out _ HB0.out⟩
end Go.Proofs.YtlkolcokjmlmjaaGreat.Tx
namespace Go.Proofs.YtlkolcokjmlmjaaGreat.Tx
theorem Inv.of_rows {st:FSM} (hp:st.pending=[]) (hs:st.sure=st.now) (hr:RowsOk st.now st.time):Inv st:=by
 have e:∀ k,againM st k=st.now:=fun k=>by unfold againM;rw [hp,hs];simp
 exact ⟨(e _).symm,fun k=>by rw [e];exact hr,fun k o ho=>by rw [hp] at ho;cases ho⟩
theorem putE_ok {st : FSM} {p : List UInt8} {mode : Int} {data : List UInt8} {only full : Bool} {room : Int} (h : putE st p mode data only full room = 0) :
  pathB p=true∧(1≤mode∧mode≤3)∧data.length≤20000∧((∃ r∈st.now,r.path=p)∨mayM st.now p=true):=by
 unfold putE at h
 split at h
 ·cases h
 ·rename_i h1
  split at h
  ·cases h
  ·rename_i h2
   split at h
   ·cases h
   ·rename_i h3
    split at h
    ·cases h
    ·split at h
     ·cases h
     ·rename_i h5
      refine ⟨by simpa using h1,by omega,by omega,?_⟩
      cases hf:findM st.now p with
      | some i=>exact .inl (find_some (by rw [hf];rfl))
      | none =>
       right
       cases hm:mayM st.now p with
       | true=>rfl
       | false=>exact absurd ⟨by rw [hf];rfl,hm⟩ h5
theorem Inv.put {st:FSM} (h:Inv st) (p:List UInt8) (mode:Int) (data:List UInt8) (only full:Bool) (room:Int):Inv (putM st p mode data only full room):=by
 unfold putM
 split
 ·rename_i he
  obtain ⟨a,b,c,d⟩:=putE_ok he
  refine h.change _ ?_ ?_
  ·rw [opOf_yes rfl]
   exact (h.rows.later (by omega)).with_ (p:=p) (f:=⟨mode,data,st.time+1⟩) a b c (Int.le_refl _) d
  ·rw [opOf_yes rfl]
   exact fun _=>⟨a,b,c,Int.le_refl _,d⟩
 ·exact h
theorem Inv.drop {st:FSM} (h:Inv st) (p:List UInt8):Inv (dropM st p):=by
 unfold dropM
 split
 ·refine h.change _ ?_ ?_
  ·rw [opOf_no (show (3:Int)≠1 by decide)]
   exact (h.rows.later (by omega)).without p
  ·rw [opOf_no (show (3:Int)≠1 by decide)]
   exact fun hk=>absurd hk (show ¬ (3:Int)=1 by decide)
 ·exact h
theorem Inv.move {st:FSM} (h:Inv st) (fr tt:List UInt8) (only:Bool):Inv (moveM0 st fr tt only):=by
 unfold moveM0
 split
 ·rename_i he
  obtain ⟨he,hne⟩:=he
  have hgo:pathB tt=true∧((findM st.now tt).isNone=true→mayM (withoutM st.now fr) tt=true):=by
   unfold moveE0 at he
   split at he
   ·cases he
   ·rename_i h1
    split at he
    ·cases he
    ·split at he
     ·cases he
     ·split at he
      ·cases he
      ·rename_i h5
       refine ⟨?_,fun hn=>?_⟩
       ·cases ht:pathB tt with
        | true=>rfl
        | false=>exact absurd (.inr ht) h1
       ·cases hm:mayM (withoutM st.now fr) tt with
        | true=>rfl
        | false=>exact absurd ⟨hn,hm⟩ h5
  refine h.change _ ?_ ?_
  ·rw [opOf_no (show (2:Int)≠1 by decide)]
   show RowsOk (applyM st.now ⟨2,fr,tt,⟨0,[],0⟩⟩) (st.time+1)
   unfold applyM
   rw [if_neg (show ¬ (2:Int)=1 by decide),if_pos rfl]
   split
   ·exact h.rows.later (by omega)
   ·split
    ·exact h.rows.later (by omega)
    ·rename_i r hr
     have hrow:=h.rows.row r (List.mem_of_getElem? hr)
     refine ((h.rows.later (by omega)).without fr).with_ hgo.1 ⟨hrow.2.1,hrow.2.2.1⟩ hrow.2.2.2.1 (by have:=hrow.2.2.2.2;omega) ?_
     cases hn:(findM st.now tt).isNone with
     | true=>exact .inr (hgo.2 hn)
     | false =>
      obtain ⟨c,hc,e⟩:=find_some (R:=st.now) (p:=tt) (by cases hf:findM st.now tt <;> simp_all)
      exact .inl ⟨c,mem_without.2 ⟨hc,by rw [e];exact fun e2=>hne e2.symm⟩,e⟩
  ·rw [opOf_no (show (2:Int)≠1 by decide)]
   exact fun hk=>absurd hk (show ¬ (2:Int)=1 by decide)
 ·exact h
theorem Inv.torn {st:FSM} (h:Inv st) (keep torn:Int):RowsOk (tornM st keep torn) st.time:=by
 unfold tornM
 split
 ·exact h.ok _
 ·rename_i o ho
  split
  ·rename_i hk
   obtain ⟨a,b,c,d,e⟩:=h.op _ o ho hk.1
   show RowsOk (applyM (againM st (keepM st keep)) { o with f:={ o.f with data:=o.f.data.take torn.toNat } }) st.time
   unfold applyM
   rw [if_pos hk.1]
   exact (h.ok _).with_ (p:=o.to) (f:={ o.f with data:=o.f.data.take torn.toNat }) a b (by show (o.f.data.take torn.toNat).length≤20000;rw [List.length_take];omega) d e
  ·exact h.ok _
theorem Inv.crash {st:FSM} (h:Inv st) (keep torn:Int):Inv (crashM st keep torn):=by
 cases hd:st.down with
 | true=>rw [crash_down hd];exact h
 | false =>
  rw [crash_up hd]
  exact Inv.of_rows rfl rfl (h.torn keep torn)
theorem Inv.userW {st:FSM} (h:Inv st) (p:List UInt8) (mode:Int) (data:List UInt8):Inv (userWM st p mode data):=by
 unfold userWM
 split
 ·have h1:=(h.put p mode data false false 1152921504606846976).safe
  exact ⟨h1.now,h1.ok,h1.op⟩
 ·exact h
theorem Inv.userR {st:FSM} (h:Inv st) (p:List UInt8):Inv (userRM st p):=by
 unfold userRM
 split
 ·have h1:=(h.drop p).safe
  exact ⟨h1.now,h1.ok,h1.op⟩
 ·exact h
theorem Inv.ev {s:BegM} (h:Inv s.st) (e:EvM):Inv (evM s e).st:=by
 unfold evM
 split
 ·split
  ·exact h.crash _ _
  ·split
   ·exact h
   ·split
    ·exact h
    ·split
     ·exact h.userW _ _ _
     ·split
      ·exact h.userR _
      ·exact h
 ·exact h
end Go.Proofs.YtlkolcokjmlmjaaGreat.Tx
namespace Go.Proofs.YtlkolcokjmlmjaaGreat.Tx
theorem used_app (A B:List RowM):usedM (A++B)=usedM A+usedM B:=by unfold usedM;rw [List.map_append,List.sum_append]
theorem used_cons (r:RowM) (R:List RowM):usedM (r::R)=r.f.data.length+usedM R:=by unfold usedM;rw [List.map_cons,List.sum_cons]
theorem used_with (R:List RowM) (p:List UInt8) (f:FileM):usedM (withM R p f)=usedM (withoutM R p)+f.data.length:=by
 obtain ⟨A,B,h1,h2,_,_⟩:=with_split R p f
 rw [h1,h2,used_app,used_app,used_cons]
 show usedM A+(f.data.length+usedM B)=_
 omega
theorem without_cons (r:RowM) (R:List RowM) (p:List UInt8):withoutM (r::R) p=if r.path=p then withoutM R p else r::withoutM R p:=by
 unfold withoutM
 rw [List.filter_cons]
 by_cases h:r.path=p
 ·simp [h]
 ·simp [h]
theorem used_without_le (p:List UInt8):∀ R:List RowM,usedM (withoutM R p)≤usedM R
 | []=>Nat.le_refl _
 | r::R=>by
  have ih:=used_without_le p R
  rw [without_cons,used_cons]
  split
  ·omega
  ·rw [used_cons];omega
theorem old_cons (r:RowM) (R:List RowM) (p:List UInt8):oldM (r::R) p=if r.path=p then r.f.data.length else oldM R p:=by
 unfold oldM findM
 rw [List.findIdx?_cons]
 by_cases h:r.path=p
 ·simp [h]
 ·simp [h]
  cases List.findIdx? (fun r=>r.path==p) R <;> simp
theorem without_none {R:List RowM} {p:List UInt8} (h:∀ r∈R,r.path≠p):withoutM R p=R:=by
 unfold withoutM
 rw [List.filter_eq_self]
 intro r hr
 simpa using h r hr
theorem used_without (p:List UInt8):∀ {R:List RowM},Ord R→usedM (withoutM R p)+oldM R p=usedM R
 | [],_=>rfl
 | r::R,h=>by
  have h':=List.pairwise_cons.1 h
  have ih:=used_without p h'.2
  rw [without_cons,old_cons,used_cons]
  split
  ·rename_i hp
   have hn:∀ x∈R,x.path≠p:=fun x hx e=>by
    have:=h'.1 x hx
    rw [e,hp,bl_irr] at this
    cases this
   rw [without_none hn]
   omega
  ·rw [used_cons];omega
theorem used_row {R:List RowM} {r:RowM} {p:List UInt8} (h:r∈R) (hp:r.path=p) (ho:Ord R):oldM R p=r.f.data.length:=by
 induction R with
 | nil=>cases h
 | cons x R ih =>
  have h':=List.pairwise_cons.1 ho
  rw [old_cons]
  rcases List.mem_cons.1 h with e | h
  ·rw [← e,if_pos hp]
  ·rw [if_neg (fun e=>by have:=h'.1 r h;rw [hp,e,bl_irr] at this;cases this)]
   exact ih h h'.2
end Go.Proofs.YtlkolcokjmlmjaaGreat.Tx
namespace Go.Proofs.YtlkolcokjmlmjaaGreat.Tx
def Kept (st:FSM):Prop:=st.user≠[]∨∀ k,(usedM (againM st k):Int)≤max st.room 0
end Go.Proofs.YtlkolcokjmlmjaaGreat.Tx
namespace Go.Proofs.YtlkolcokjmlmjaaGreat.Tx
def dirsM (R:List RowM):List (List UInt8):=R.flatMap fun r=>parentsL r.path
def cntM (R:List RowM) (p:List UInt8):Nat:=(dirsM R).count p
def standsM (R:List RowM) (p:List UInt8):Bool:=R.any fun r=>r.path==p
theorem stands_iff {R:List RowM} {p:List UInt8}:standsM R p=true↔∃ r∈R,r.path=p:=by
 unfold standsM
 rw [List.any_eq_true]
 constructor
 ·rintro ⟨r,h1,h2⟩;exact ⟨r,h1,beq_iff_eq.1 h2⟩
 ·rintro ⟨r,h1,h2⟩;exact ⟨r,h1,beq_iff_eq.2 h2⟩
theorem stands_no {R:List RowM} {p:List UInt8}:standsM R p=false↔∀ r∈R,r.path≠p:=by
 rw [← Bool.not_eq_true,stands_iff]
 constructor
 ·intro h r hr e;exact h ⟨r,hr,e⟩
 ·rintro h ⟨r,hr,e⟩;exact h r hr e
theorem stands_find {R:List RowM} {p:List UInt8}:standsM R p=(findM R p).isSome:=by
 cases h:standsM R p with
 | false =>
  have:=find_none_iff.2 (stands_no.1 h)
  cases hf:findM R p with
  | none=>rfl
  | some i=>rw [hf] at this;cases this
 | true =>
  cases hf:findM R p with
  | none =>
   have:=find_none_iff.1 (by rw [hf];rfl)
   obtain ⟨r,h1,h2⟩:=stands_iff.1 h
   exact absurd h2 (this r h1)
  | some i=>rfl
theorem stands_with {R:List RowM} {p q:List UInt8} {f:FileM}:standsM (withM R p f) q=(decide (q=p)||standsM R q):=by
 by_cases h:q=p
 ·subst h
  rw [decide_eq_true rfl,Bool.true_or]
  exact stands_iff.2 ⟨⟨q,f⟩,mem_with.2 (.inl rfl),rfl⟩
 ·rw [decide_eq_false h,Bool.false_or]
  cases hs:standsM R q with
  | true =>
   obtain ⟨r,h1,h2⟩:=stands_iff.1 hs
   exact stands_iff.2 ⟨r,mem_with.2 (.inr ⟨h1,by rw [h2];exact h⟩),h2⟩
  | false =>
   refine stands_no.2 fun r hr e=>?_
   rcases mem_with.1 hr with rfl | ⟨h1,_⟩
   ·exact h e.symm
   ·exact stands_no.1 hs r h1 e
theorem stands_without {R:List RowM} {p q:List UInt8}:standsM (withoutM R p) q=(!decide (q=p)&&standsM R q):=by
 by_cases h:q=p
 ·subst h
  rw [decide_eq_true rfl,Bool.not_true,Bool.false_and]
  exact stands_no.2 fun r hr=>(mem_without.1 hr).2
 ·rw [decide_eq_false h,Bool.not_false,Bool.true_and]
  cases hs:standsM R q with
  | true =>
   obtain ⟨r,h1,h2⟩:=stands_iff.1 hs
   exact stands_iff.2 ⟨r,mem_without.2 ⟨h1,by rw [h2];exact h⟩,h2⟩
  | false=>exact stands_no.2 fun r hr e=>stands_no.1 hs r (mem_without.1 hr).1 e
theorem count_swap {α:Type} [BEq α] (A B C:List α) (q:α):(A++(B++C)).count q=(A++C).count q+B.count q:=by
 simp only [List.count_append];omega
theorem dirs_app (A B:List RowM):dirsM (A++B)=dirsM A++dirsM B:=List.flatMap_append
theorem dirs_cons (r:RowM) (R:List RowM):dirsM (r::R)=parentsL r.path++dirsM R:=List.flatMap_cons
theorem cnt_with (R:List RowM) (p:List UInt8) (f:FileM) (q:List UInt8):cntM (withM R p f) q=cntM (withoutM R p) q+(parentsL p).count q:=by
 obtain ⟨A,B,h1,h2,_,_⟩:=with_split R p f
 unfold cntM
 rw [h1,h2,dirs_app,dirs_app,dirs_cons,count_swap]
theorem without_mid {A B:List RowM} {r:RowM} (h:Ord (A++r::B)):withoutM (A++r::B) r.path=A++B:=by
 have hn:∀ x∈A++B,x.path≠r.path:=by
  intro x hx e
  obtain ⟨_,g2,g3⟩:=List.pairwise_append.1 h
  rcases List.mem_append.1 hx with hx | hx
  ·have:=g3 x hx r List.mem_cons_self
   rw [e,bl_irr] at this;cases this
  ·have:=(List.pairwise_cons.1 g2).1 x hx
   rw [e,bl_irr] at this;cases this
 unfold withoutM
 rw [List.filter_append,List.filter_cons,if_neg (by simp)]
 rw [← List.filter_append]
 exact List.filter_eq_self.2 fun x hx=>by simpa using hn x hx
theorem cnt_without {R:List RowM} (h:Ord R) {r:RowM} (hr:r∈R) (q:List UInt8):cntM R q=cntM (withoutM R r.path) q+(parentsL r.path).count q:=by
 obtain ⟨A,B,rfl⟩:=List.append_of_mem hr
 rw [without_mid h]
 unfold cntM
 rw [dirs_app,dirs_app,dirs_cons,count_swap]
theorem parents_few (s:List UInt8):(parentsL s).length≤7:=by
 cases hp:pathB s with
 | false=>unfold parentsL;rw [if_neg (by rw [hp];decide)];simp
 | true =>
  have h1:=parents_len hp
  have h2:=((pathB_iff s).1 hp).2.2
  have h3:(namesL s).length=(splitL 47 s).length:=by unfold namesL;rw [if_pos hp]
  omega
theorem dirs_len:∀ R:List RowM,(dirsM R).length≤7*R.length
 | []=>by simp [dirsM]
 | r::R=>by
  have h1:=parents_few r.path
  have h2:=dirs_len R
  rw [dirs_cons,List.length_append,List.length_cons]
  omega
theorem cnt_le (R:List RowM) (q:List UInt8):cntM R q≤7*R.length:=Nat.le_trans List.count_le_length (dirs_len R)
theorem nodup_within {α:Type} [BEq α] [LawfulBEq α]:∀ {l m:List α},l.Nodup→(∀ x∈l,x∈m)→l.length≤m.length
 | [],_,_,_=>Nat.zero_le _
 | x::l,m,hn,hs=>by
  have hn':=List.nodup_cons.1 hn
  have hx:x∈m:=hs x List.mem_cons_self
  have:=nodup_within (l:=l) (m:=m.erase x) hn'.2 (fun y hy=>by
   have hne:y≠x:=fun e=>hn'.1 (e ▸ hy)
   exact (List.mem_erase_of_ne hne).2 (hs y (List.mem_cons_of_mem _ hy)))
  rw [List.length_erase_of_mem hx] at this
  have:=List.length_pos_of_mem hx
  rw [List.length_cons]
  omega
theorem parP_nodup (s:List UInt8):∀ n,n≤s.length→(parP s n).Nodup
 | 0,_=>List.nodup_nil
 | n+1,h=>by
  unfold parP
  split
  ·refine List.nodup_append.2 ⟨parP_nodup s n (by omega),by simp,fun a ha b hb e=>?_⟩
   rw [List.mem_singleton] at hb
   obtain ⟨k,hk,_,hx⟩:=parP_mem.1 ha
   have:(s.take k).length=(s.take n).length:=by rw [← hx,e,hb]
   rw [List.length_take,List.length_take] at this
   omega
  ·exact parP_nodup s n (by omega)
theorem parents_nodup (s:List UInt8):(parentsL s).Nodup:=by
 unfold parentsL
 split
 ·exact parP_nodup s _ (Nat.le_refl _)
 ·exact List.nodup_nil
theorem nodup_count {α:Type} [BEq α] [LawfulBEq α] {x:α}:∀ {l:List α},l.Nodup→x∈l→l.count x=1
 | [],_,h=>by cases h
 | y::l,hn,h=>by
  have hn':=List.nodup_cons.1 hn
  rw [List.count_cons]
  by_cases e:y=x
  ·subst e
   rw [List.count_eq_zero.2 hn'.1]
   simp
  ·rcases List.mem_cons.1 h with h | h
   ·exact absurd h.symm e
   ·rw [nodup_count hn'.2 h]
    simp [e]
theorem count_parents (s q:List UInt8):(parentsL s).count q=if underB q s=true then 1 else 0:=by
 split
 ·rename_i h
  exact nodup_count (parents_nodup s) ((under_iff q s).1 h)
 ·rename_i h
  exact List.count_eq_zero.2 fun hm=>h ((under_iff q s).2 hm)
theorem cnt_zero {R:List RowM} {p:List UInt8}:cntM R p=0↔∀ r∈R,underB p r.path=false:=by
 unfold cntM dirsM
 rw [List.count_eq_zero,List.mem_flatMap]
 constructor
 ·intro h r hr
  cases hu:underB p r.path with
  | false=>rfl
  | true=>exact absurd ⟨r,hr,(under_iff _ _).1 hu⟩ h
 ·rintro h ⟨r,hr,hm⟩
  have:=h r hr
  rw [(under_iff _ _).2 hm] at this
  cases this
end Go.Proofs.YtlkolcokjmlmjaaGreat.Tx
