/- Texts put together: VGx8, VGx9, VGx10, VHd1. -/
import Derived.Test.YtlkolcokjmlmjaaGreatQv43
import Derived.Test.YtlkolcokjmlmjaaGreatQv44
import Derived.Test.YtlkolcokjmlmjaaGreatQv41
import Derived.Test.YtlkolcokjmlmjaaGreatQv30
import Derived.Test.YtlkolcokjmlmjaaGreatQv42
set_option linter.unusedVariables false
set_option linter.unusedSimpArgs false
namespace Go.Proofs.YtlkolcokjmlmjaaGreat.Wk
open Go.Shelf Go.RowKit Go.Lib Go.Sort
section
variable {β:Type} [Inhabited β] {tag:β→Nat} {key:β→Int} {dt d D E:Array β} {z q0 N a b:Nat}
theorem mul_up {q p z:Nat} (h:q<p):q*z+z≤p*z:=by
 have:=Nat.mul_le_mul_right z (show q+1≤p from h)
 rw [Nat.add_mul,Nat.one_mul] at this
 exact this
structure Run1 (tag:β→Nat) (key:β→Int) (dt D:Array β) (z q0:Nat):Prop where
 tags:TagOk tag dt D
 srt:∀ q,q<q0→SrtT tag key D (q*z) (q*z+z)
 tin:∀ q t,q<q0→q*z≤t→t<q*z+z→q*z≤tag D[t]! ∧ tag D[t]!<q*z+z
 rest:∀ t,q0*z≤t→t<D.size→tag D[t]! = t
structure Runs (tag:β→Nat) (key:β→Int) (dt D:Array β) (z:Nat):Prop where
 tags:TagOk tag dt D
 srt:∀ q,SrtT tag key D (q*z) (min (q*z+z) D.size)
 tin:∀ q t,q*z≤t→t<q*z+z→t<D.size→q*z≤tag D[t]! ∧ tag D[t]!<q*z+z
theorem Run1.start (h:∀ i,i<d.size→tag d[i]! = i) (z:Nat):Run1 tag key d d z 0 :=
 ⟨TagOk.refl h,fun q hq=>by omega,fun q t hq=>by omega,fun t _ ht=>h t ht⟩
theorem Run1.inc (h:Run1 tag key dt D z q0) (hb:b≤D.size):TagInc tag D (q0*z) b:=fun i j h1 h2 h3=>by
 rw [h.rest i h1 (by omega),h.rest j (by omega) (by omega)]
 exact h2
theorem Run1.step (h:Run1 tag key dt D z q0) (ht:TagOk tag dt E) (hw:Within (q0*z) (q0*z+z) D E) (hs:SrtT tag key E (q0*z) (q0*z+z)) (hb:q0*z+z≤D.size):Run1 tag key dt E z (q0+1):=by
 have hq1:(q0+1)*z=q0*z+z:=by rw [Nat.add_mul,Nat.one_mul]
 refine ⟨ht,fun q hq=>?_,fun q t hq t1 t2=>?_,fun t t1 t2=>?_⟩
 ·by_cases e:q=q0
  ·rw [e];exact hs
  ·have hu:=mul_up (z:=z) (show q<q0 by omega)
   intro i j h1 h2 h3
   rw [hw.out i (.inl (by omega)),hw.out j (.inl (by omega))]
   exact h.srt q (by omega) i j h1 h2 h3
 ·by_cases e:q=q0
  ·subst e
   obtain ⟨j,j1,j2,j3⟩:=hw.ins t t1 t2
   rw [j3,h.rest j j1 (by omega)]
   exact ⟨j1,j2⟩
  ·have hu:=mul_up (z:=z) (show q<q0 by omega)
   rw [hw.out t (.inl (by omega))]
   exact h.tin q t (by omega) t1 t2
 ·rw [hq1] at t1
  rw [hw.out t (.inr t1)]
  exact h.rest t (by omega) (by rw [← hw.size];exact t2)
theorem Run1.done (h:Run1 tag key dt D z q0) (ht:TagOk tag dt E) (hw:Within (q0*z) D.size D E) (hs:SrtT tag key E (q0*z) D.size) (hb:D.size<q0*z+z) (ha:q0*z≤D.size):Runs tag key dt E z:=by
 refine ⟨ht,fun q=>?_,fun q t t1 t2 t3=>?_⟩
 ·rw [hw.size]
  intro i j h1 h2 h3
  by_cases e:q<q0
  ·have hu:=mul_up (z:=z) e
   rw [hw.out i (.inl (by omega)),hw.out j (.inl (by omega))]
   exact h.srt q e i j h1 h2 (by omega)
  ·by_cases e2:q=q0
   ·subst e2;exact hs i j h1 h2 (by omega)
   ·have hu:=mul_up (z:=z) (show q0<q by omega)
    omega
 ·rw [hw.size] at t3
  by_cases e:q<q0
  ·have hu:=mul_up (z:=z) e
   rw [hw.out t (.inl (by omega))]
   exact h.tin q t e t1 t2
  ·by_cases e2:q=q0
   ·subst e2
    obtain ⟨j,j1,j2,j3⟩:=hw.ins t t1 (by omega)
    rw [j3,h.rest j j1 j2]
    exact ⟨j1,by omega⟩
   ·have hu:=mul_up (z:=z) (show q0<q by omega)
    omega
structure Run2 (tag:β→Nat) (key:β→Int) (dt D:Array β) (z q0:Nat):Prop where
 tags:TagOk tag dt D
 srt:∀ q,q<q0→SrtT tag key D (q*(2*z)) (q*(2*z)+2*z)
 tin:∀ q t,q<q0→q*(2*z)≤t→t<q*(2*z)+2*z→q*(2*z)≤tag D[t]! ∧ tag D[t]!<q*(2*z)+2*z
 srt1:∀ q,2*q0≤q→SrtT tag key D (q*z) (min (q*z+z) D.size)
 tin1:∀ q t,2*q0≤q→q*z≤t→t<q*z+z→t<D.size→q*z≤tag D[t]! ∧ tag D[t]!<q*z+z
theorem Runs.start (h:Runs tag key dt D z):Run2 tag key dt D z 0 :=
 ⟨h.tags,fun q hq=>by omega,fun q t hq=>by omega,fun q _=>h.srt q,fun q t _=>h.tin q t⟩
theorem two_mul_ (q z:Nat):(2*q)*z=q*(2*z)∧(2*q+1)*z=q*(2*z)+z:=by
 have h1:(2*q)*z=q*(2*z):=by rw [Nat.mul_comm 2 q,Nat.mul_assoc]
 exact ⟨h1,by rw [Nat.add_mul,Nat.one_mul,h1]⟩
theorem Run2.pre (h:Run2 tag key dt D z q0) (hz:0<z) {m:Nat} (hm:q0*(2*z)+z=m) (hmN:m≤D.size) (hb:b≤D.size) (hbz:b≤m+z):PreM tag key dt D (q0*(2*z)) m b:=by
 obtain ⟨e1,e2⟩:=two_mul_ q0 z
 have s1:=h.srt1 (2*q0) (Nat.le_refl _)
 have s2:=h.srt1 (2*q0+1) (by omega)
 have t1:=h.tin1 (2*q0)
 have t2:=h.tin1 (2*q0+1)
 rw [e1] at s1 t1
 rw [e2] at s2 t2
 refine ⟨h.tags,fun i j h1 h2 h3=>s1 i j h1 h2 (by omega),fun i j h1 h2 h3=>s2 i j (by omega) h2 (by omega),fun i j h1 h2 h3 h4=>?_⟩
 have g1:=t1 i (Nat.le_refl _) h1 (by omega) (by omega)
 have g2:=t2 j (by omega) (by omega) (by omega) (by omega)
 omega
theorem Run2.step (h:Run2 tag key dt D z q0) (hz:0<z) (hp:PostM tag key dt D E (q0*(2*z)) (q0*(2*z)+2*z)) (hb:q0*(2*z)+2*z≤D.size):Run2 tag key dt E z (q0+1):=by
 have hw:=hp.win
 obtain ⟨e1,e2⟩:=two_mul_ q0 z
 have t1:=h.tin1 (2*q0)
 have t2:=h.tin1 (2*q0+1)
 rw [e1] at t1
 rw [e2] at t2
 have hge:∀ q,2*(q0+1)≤q→q0*(2*z)+2*z≤q*z:=fun q hq=>by
  have:=Nat.mul_le_mul_right z hq
  rw [(two_mul_ (q0+1) z).1,Nat.add_mul,Nat.one_mul] at this
  exact this
 refine ⟨hp.tags,fun q hq=>?_,fun q t hq g1 g2=>?_,fun q hq i j h1 h2 h3=>?_,fun q t hq g1 g2 g3=>?_⟩
 ·by_cases e:q=q0
  ·rw [e];exact hp.srt
  ·have hu:=mul_up (z:=2*z) (show q<q0 by omega)
   intro i j h1 h2 h3
   rw [hw.out i (.inl (by omega)),hw.out j (.inl (by omega))]
   exact h.srt q (by omega) i j h1 h2 h3
 ·by_cases e:q=q0
  ·subst e
   obtain ⟨j,j1,j2,j3⟩:=hw.ins t g1 g2
   rw [j3]
   by_cases c:j<q*(2*z)+z
   ·have:=t1 j (Nat.le_refl _) j1 c (by omega);omega
   ·have:=t2 j (by omega) (by omega) (by omega) (by omega);omega
  ·have hu:=mul_up (z:=2*z) (show q<q0 by omega)
   rw [hw.out t (.inl (by omega))]
   exact h.tin q t (by omega) g1 g2
 ·have:=hge q hq
  rw [hw.size] at h3
  rw [hw.out i (.inr (by omega)),hw.out j (.inr (by omega))]
  exact h.srt1 q (by omega) i j h1 h2 h3
 ·have:=hge q hq
  rw [hw.size] at g3
  rw [hw.out t (.inr (by omega))]
  exact h.tin1 q t (by omega) g1 g2 g3
theorem Run2.done (h:Run2 tag key dt D z q0) (hz:0<z) (hp:PostM tag key dt D E (q0*(2*z)) D.size) (hb:D.size<q0*(2*z)+2*z):Runs tag key dt E (2*z):=by
 have hw:=hp.win
 obtain ⟨e1,e2⟩:=two_mul_ q0 z
 have t1:=h.tin1 (2*q0)
 have t2:=h.tin1 (2*q0+1)
 rw [e1] at t1
 rw [e2] at t2
 refine ⟨hp.tags,fun q i j h1 h2 h3=>?_,fun q t g1 g2 g3=>?_⟩
 ·rw [hw.size] at h3
  by_cases e:q<q0
  ·have hu:=mul_up (z:=2*z) e
   by_cases hs:q0*(2*z)≤D.size
   ·rw [hw.out i (.inl (by omega)),hw.out j (.inl (by omega))]
    exact h.srt q e i j h1 h2 (by omega)
   ·rw [hw.out i (.inl (by omega)),hw.out j (.inl (by omega))]
    exact h.srt q e i j h1 h2 (by omega)
  ·by_cases e2:q=q0
   ·subst e2;exact hp.srt i j h1 h2 (by omega)
   ·have hu:=mul_up (z:=2*z) (show q0<q by omega)
    omega
 ·rw [hw.size] at g3
  by_cases e:q<q0
  ·have hu:=mul_up (z:=2*z) e
   rw [hw.out t (.inl (by omega))]
   exact h.tin q t e g1 g2
  ·by_cases e2:q=q0
   ·subst e2
    obtain ⟨j,j1,j2,j3⟩:=hw.ins t g1 (by omega)
    rw [j3]
    by_cases c:j<q*(2*z)+z
    ·have:=t1 j (Nat.le_refl _) j1 c (by omega);omega
    ·have:=t2 j (by omega) (by omega) (by omega) (by omega);omega
   ·have hu:=mul_up (z:=2*z) (show q0<q by omega)
    omega
theorem Run2.lone (h:Run2 tag key dt D z q0) (hz:0<z) (hm:D.size≤q0*(2*z)+z):Runs tag key dt D (2*z):=by
 obtain ⟨e1,e2⟩:=two_mul_ q0 z
 have s1:=h.srt1 (2*q0) (Nat.le_refl _)
 rw [e1] at s1
 exact h.done hz ⟨h.tags,Within.refl _ _ _,fun i j h1 h2 h3=>s1 i j h1 h2 (by omega)⟩ (by omega)
theorem Runs.all (h:Runs tag key dt D z) (hz:D.size≤z):SrtT tag key D 0 D.size:=fun i j h1 h2 h3=>h.srt 0 i j (by omega) h2 (by omega)
end
end Go.Proofs.YtlkolcokjmlmjaaGreat.Wk
set_option linter.unusedVariables false
set_option linter.unusedSimpArgs false
namespace Go.Proofs.YtlkolcokjmlmjaaGreat.Wk
open Go.Shelf Go.RowKit Go.Lib Go.Sort
def StepS {α:Type} [Inhabited α] (tag:α→Nat) (key:α→Int) (enc:α→List Value) (k:Nat) (w0:World) (blk off:Nat) (d:Array α) (e:Ending) (w':World):Prop :=
 e=.returned (.tuple #[])∧∃ d',(TagOk tag d d'∧SrtT tag key d' 0 d'.size)∧SWK enc k w0 blk off d' w'
section
variable {P:Program} {α:Type} [Inhabited α] {k:Nat}
set_option maxHeartbeats 8000000 in
set_option maxRecDepth 1000000 in
theorem stable_x (T : TypesAs P k) (FR : P.funcs[173]? = some Tryz.f173) (FS : P.funcs[189]? = some Tryz.f189) (FM : P.funcs[163]? = some Tryz.f163) (FI : P.funcs[162]? = some Tryz.f162) (FG : P.funcs[143]? = some Tryz.f143) (enc : α → List Value) (g : Nat) (cb : Array Value) (cf : α → α → Int) (blk off N cap : Nat) (d0 d : Array α) (w0 w : World) (tag : α → Nat) (key : α → Int) (hcf : ∀ x y, cf x y < 0 ↔ key x < key y) (h0 : ∀ i, i < d.size → tag d[i]! = i)
  (eg:∀ args w,(callFunc g args).run P w=.ok (.enter g args) w) (hcmp:CmpLays P g cb enc k cf blk off N w0)
  (R:RowK enc k w0 blk off d0) (hN0:d0.size=N) (hdN:d.size=N) (S:SWK enc k w0 blk off d w) (hsz:N<1000000000000000000) :
  Calls P 143 #[.slice (some ⟨blk,off,none⟩) N cap,.int .i64 N,.func (.func g) #[] cb] w (StepS tag key enc k w0 blk off d):=by
 have T0:Aside (TypesAs P k):=T
 have mixed:=T.mixed;have t3:=T.t3;have a3:=T.a3;have z3:=T.z3;have t4:=T.t4;have a4:=T.a4;have z4:=T.z4;have t33:=T.t33;have a33:=T.a33;have z33:=T.z33;have aE:=T.aE;have zE:=T.zE
 clear T
 have S0:Aside (SWK enc k w0 blk off d w):=S
 have R0:Aside (RowK enc k w0 blk off d0):=R
 have C0:Aside (CmpLays P g cb enc k cf blk off N w0):=hcmp
 have FR0:=id (show Aside (P.funcs[173]? = some Tryz.f173) from FR)
 have FS0:=id (show Aside (P.funcs[189]? = some Tryz.f189) from FS)
 have FM0:=id (show Aside (P.funcs[163]? = some Tryz.f163) from FM)
 have FI0:=id (show Aside (P.funcs[162]? = some Tryz.f162) from FI)
 have eM:∀ args w,(callFunc 163 args).run P w=.ok (.enter 163 args) w:=enters_of FM (by kernel_rfl) rfl
 have eI:∀ args w,(callFunc 162 args).run P w=.ok (.enter 162 args) w:=enters_of FI (by kernel_rfl) rfl
 have hsz:N<4611686018427387904:=by omega
 have HCF:=Aside.mk' hcf
 have HT0:=Aside.mk' h0
 clear S R hcmp FR FS FM FI hcf h0
 go_enter FG,Tryz.ntmps143
 go_wp2
 go_loopg [7,8] N (fun kx s t wr=>∃ (a:Nat) (D:Array α),s=.int .i64 a∧t=.int .i64 ((a+20:Nat):Int)∧a≤N∧N - a≤kx∧Aside ((∃ q,a=q*20∧Run1 tag key d D 20 q)∧SWK enc k w0 blk off D wr))
 case atStart=>exact ⟨0,d,rfl,rfl,by omega,by omega,⟨0,by simp,Run1.start HT0.out 20⟩,S0.out⟩
 case round =>
  clear S0
  obtain ⟨a,D,rfl,rfl,haN,hkx,S1⟩:=hrel
  obtain ⟨q,hq,hr⟩:=S1.out.1
  have HR:=Aside.mk' hr
  have HQ:=Aside.mk' hq
  have hDs:D.size=N:=hr.tags.size.trans hdN
  clear hr hq
  obtain ⟨b,hb⟩:∃ b,a+20=b:=⟨_,rfl⟩
  rw [hb]
  obtain ⟨b2,hb2⟩:∃ q,b+20=q:=⟨_,rfl⟩
  have hbi:(b:Int)+20=(b2:Int):=by omega
  by_cases hlt:b≤N
  ·have hlt':(b:Int)≤(N:Int):=by omega
   have wb20:IntKind.i64.wrap (b2:Int)=(b2:Int):=by rw [IntKind.wrap_i64];omega
   go_wp2_with fail
   refine (insertion_x T0.out FI0.out enc g cb cf blk off N cap a b d0 d D w0 _ tag key HCF.out HR.out.tags (by have h9:=HQ.out;rw [h9];exact HR.out.inc (by omega)) eg C0.out R0.out hN0 hDs S1.out.2 (by omega) (by omega) hsz).mono ?_
   rintro e w1 ⟨rfl,D1,⟨ht1,hw1,hs1⟩,hS1⟩
   have hq20:=HQ.out
   have hb9:b=q*20+20:=by omega
   rw [hq20,hb9] at hw1 hs1
   have S2:=Aside.mk' (show (∃ q,b=q*20∧Run1 tag key d D1 20 q)∧SWK enc k w0 blk off D1 w1 from ⟨⟨q+1,by omega,HR.out.step ht1 hw1 hs1 (by omega)⟩,hS1⟩)
   clear ht1 hw1 hs1 hS1 hb9 hq20
   go_wp2
   go_roundg (N - b)
   case measure=>omega
   case rel=>exact ⟨b,D1,by simp,by rw [hb2],by omega,Nat.le_refl _,S2⟩
  ·have hlt':¬ (b:Int)≤(N:Int):=by omega
   go_wp2_with fail
   refine (insertion_x T0.out FI0.out enc g cb cf blk off N cap a N d0 d D w0 _ tag key HCF.out HR.out.tags (by have h9:=HQ.out;rw [h9];exact HR.out.inc (by omega)) eg C0.out R0.out hN0 hDs S1.out.2 (by omega) (by omega) hsz).mono ?_
   rintro e w1 ⟨rfl,D1,⟨ht1,hw1,hs1⟩,hS1⟩
   have hq20:=HQ.out
   rw [hq20,← hDs] at hw1 hs1
   have S2:=Aside.mk' (show Runs tag key d D1 20∧SWK enc k w0 blk off D1 w1 from ⟨HR.out.done ht1 hw1 hs1 (by omega) (by omega),hS1⟩)
   clear ht1 hw1 hs1 hS1 S1 hb hbi hlt hlt' hkx haN hq20 HQ HR hDs
   go_wp2
   go_loopg [6] N (fun kx s wr=>∃ (z:Nat) (D:Array α),s=.int .i64 z∧0<z∧z<4000000000000000000∧N - z≤kx∧Aside (Runs tag key d D z∧SWK enc k w0 blk off D wr))
   case atStart=>exact ⟨20,D1,rfl,by omega,by omega,by omega,S2⟩
   case round =>
    clear S2
    obtain ⟨z,D,rfl,hz0,hz1,hkx,S1⟩:=hrel
    by_cases hzN:z<N
    ·have hzN':(z:Int)<(N:Int):=by omega
     obtain ⟨zz,hzz⟩:∃ q,2*z=q:=⟨_,rfl⟩
     have hzzi:2*(z:Int)=(zz:Int):=by omega
     have hzzj:(z:Int)*2=(zz:Int):=by omega
     have wzz:IntKind.i64.wrap (zz:Int)=(zz:Int):=by rw [IntKind.wrap_i64];omega
     go_wp2
     go_loopg [7,8] N (fun ky s t wr=>∃ (a:Nat) (D:Array α),s=.int .i64 a∧t=.int .i64 ((a+zz:Nat):Int)∧a≤N∧N - a≤ky∧Aside ((∃ q,a=q*(2*z)∧Run2 tag key d D z q)∧SWK enc k w0 blk off D wr))
     case atStart=>exact ⟨0,D,rfl,by simp,by omega,by omega,⟨0,by simp,S1.out.1.start⟩,S1.out.2⟩
     case round =>
      clear S1
      obtain ⟨a,D,rfl,rfl,haN,hky,S1⟩:=hrel
      obtain ⟨q,hq,hr⟩:=S1.out.1
      have HR:=Aside.mk' hr
      have HQ:=Aside.mk' hq
      have hDs:D.size=N:=hr.tags.size.trans hdN
      clear hr hq
      obtain ⟨b,hb⟩:∃ b,a+zz=b:=⟨_,rfl⟩
      rw [hb]
      obtain ⟨m,hm⟩:∃ m,a+z=m:=⟨_,rfl⟩
      have hmi:(a:Int)+(z:Int)=(m:Int):=by omega
      have wm:IntKind.i64.wrap (m:Int)=(m:Int):=by rw [IntKind.wrap_i64];omega
      by_cases hlt:b≤N
      ·have hlt':(b:Int)≤(N:Int):=by omega
       obtain ⟨b2,hb2⟩:∃ q,b+zz=q:=⟨_,rfl⟩
       have hbi:(b:Int)+(zz:Int)=(b2:Int):=by omega
       have wbz:IntKind.i64.wrap (b2:Int)=(b2:Int):=by rw [IntKind.wrap_i64];omega
       go_wp2_with fail
       refine (symMerge_x T0.out FR0.out FS0.out FM0.out enc g cb cf blk off N cap d0 w0 d tag key HCF.out eg C0.out R0.out hN0 hsz N a m b D _ (by omega) hDs (by have h9:=HQ.out;rw [h9];exact HR.out.pre hz0 (by omega) (by omega) (by omega) (by omega)) S1.out.2 (by omega) (by omega) (by omega)).mono ?_
       rintro e w2 ⟨rfl,D2,hm2,hS2⟩
       have S2:=Aside.mk' (show (∃ q,b=q*(2*z)∧Run2 tag key d D2 z q)∧SWK enc k w0 blk off D2 w2 from by
        have h9:=HQ.out
        have hb9:b=q*(2*z)+2*z:=by omega
        rw [h9,hb9] at hm2
        exact ⟨⟨q+1,by rw [Nat.add_mul,Nat.one_mul];exact hb9,HR.out.step hz0 hm2 (by omega)⟩,hS2⟩)
       clear hm2 hS2
       go_wp2
       go_roundg (N - b)
       case measure=>omega
       case rel=>exact ⟨b,D2,by simp,by rw [hb2],by omega,Nat.le_refl _,S2⟩
      ·have hlt':¬ (b:Int)≤(N:Int):=by omega
       by_cases hmN:m<N
       ·have hmN':(m:Int)<(N:Int):=by omega
        go_wp2_with fail
        refine (symMerge_x T0.out FR0.out FS0.out FM0.out enc g cb cf blk off N cap d0 w0 d tag key HCF.out eg C0.out R0.out hN0 hsz N a m N D _ (by omega) hDs (by have h9:=HQ.out;rw [h9];exact HR.out.pre hz0 (by omega) (by omega) (by omega) (by omega)) S1.out.2 (by omega) (by omega) (by omega)).mono ?_
        rintro e w2 ⟨rfl,D2,hm2,hS2⟩
        have S2:=Aside.mk' (show Runs tag key d D2 zz∧SWK enc k w0 blk off D2 w2 from by
         have h9:=HQ.out
         rw [h9,← hDs] at hm2
         rw [← hzz]
         exact ⟨HR.out.done hz0 hm2 (by omega),hS2⟩)
        clear hm2 hS2
        go_wp2
        go_roundg (N - zz)
        case measure=>omega
        case rel=>exact ⟨zz,D2,by simp,by omega,by omega,Nat.le_refl _,S2⟩
       ·have hmN':¬ (m:Int)<(N:Int):=by omega
        have S3:=Aside.mk' (show Runs tag key d D zz∧SWK enc k w0 blk off D wr from by
         have h9:=HQ.out
         rw [← hzz]
         exact ⟨HR.out.lone hz0 (by omega),S1.out.2⟩)
        go_wp2
        go_roundg (N - zz)
        case measure=>omega
        case rel=>exact ⟨zz,D,by simp,by omega,by omega,Nat.le_refl _,S3⟩
    ·have hzN':¬ (z:Int)<(N:Int):=by omega
     go_wp2
     go_end0
     exact ⟨rfl,D,⟨S1.out.1.tags,S1.out.1.all (by rw [S1.out.1.tags.size,hdN];omega)⟩,S1.out.2⟩
set_option maxHeartbeats 8000000 in
set_option maxRecDepth 1000000 in
theorem sortStable_x (T : TypesAs P k) (FR : P.funcs[173]? = some Tryz.f173) (FS : P.funcs[189]? = some Tryz.f189) (FM : P.funcs[163]? = some Tryz.f163) (FI : P.funcs[162]? = some Tryz.f162) (FT : P.funcs[143]? = some Tryz.f143) (FG : P.funcs[113]? = some Tryz.f113) (enc : α → List Value) (g : Nat) (cb : Array Value) (cf : α → α → Int) (blk off N cap : Nat) (d0 : Array α) (w0 : World) (tag : α → Nat) (key : α → Int) (hcf : ∀ x y, cf x y < 0 ↔ key x < key y) (h0 : ∀ i, i < d0.size → tag d0[i]! = i)
  (eg:∀ args w,(callFunc g args).run P w=.ok (.enter g args) w) (hcmp:CmpLays P g cb enc k cf blk off N w0)
  (R:RowK enc k w0 blk off d0) (hN0:d0.size=N) (S:SWK enc k w0 blk off d0 w0) (hsz:N<1000000000000000000) :
  Calls P 113 #[.slice (some ⟨blk,off,none⟩) N cap,.func (.func g) #[] cb] w0 (StepS tag key enc k w0 blk off d0):=by
 have T0:Aside (TypesAs P k):=T
 have mixed:=T.mixed;have t3:=T.t3;have a3:=T.a3;have z3:=T.z3;have t4:=T.t4;have a4:=T.a4;have z4:=T.z4;have t33:=T.t33;have a33:=T.a33;have z33:=T.z33;have aE:=T.aE;have zE:=T.zE
 clear T
 have S0:Aside (SWK enc k w0 blk off d0 w0):=S
 have R0:Aside (RowK enc k w0 blk off d0):=R
 have C0:Aside (CmpLays P g cb enc k cf blk off N w0):=hcmp
 have FR0:=id (show Aside (P.funcs[173]? = some Tryz.f173) from FR)
 have FS0:=id (show Aside (P.funcs[189]? = some Tryz.f189) from FS)
 have FM0:=id (show Aside (P.funcs[163]? = some Tryz.f163) from FM)
 have FI0:=id (show Aside (P.funcs[162]? = some Tryz.f162) from FI)
 have FT0:=id (show Aside (P.funcs[143]? = some Tryz.f143) from FT)
 have eT:∀ args w,(callFunc 143 args).run P w=.ok (.enter 143 args) w:=enters_of FT (by kernel_rfl) rfl
 have HCF:=Aside.mk' hcf
 have HT0:=Aside.mk' h0
 clear S R hcmp FR FS FM FI FT hcf h0
 go_enter FG,Tryz.ntmps113
 go_wp2_with fail
 refine (stable_x T0.out FR0.out FS0.out FM0.out FI0.out FT0.out enc g cb cf blk off N cap d0 d0 w0 w0 tag key HCF.out HT0.out eg C0.out R0.out hN0 hN0 S0.out hsz).mono ?_
 rintro e w1 ⟨rfl,D1,hm1,hS1⟩
 have S2:=Aside.mk' (show (TagOk tag d0 D1∧SrtT tag key D1 0 D1.size)∧SWK enc k w0 blk off D1 w1 from ⟨hm1,hS1⟩)
 clear hm1 hS1
 go_wp2
 go_end0
 exact ⟨rfl,D1,S2.out⟩
end
end Go.Proofs.YtlkolcokjmlmjaaGreat.Wk
set_option linter.unusedVariables false
set_option linter.unusedSimpArgs false
namespace Go.Proofs.YtlkolcokjmlmjaaGreat.Wk
open Go.Shelf Go.RowKit Go.Lib Go.Sort
def tagged (d:Array EvS):Array (EvS × Nat):=(Array.range d.size).map fun i=>(d[i]!,i)
def encT (p:EvS × Nat):List Value:=encE p.1
theorem tagged_size (d:Array EvS):(tagged d).size=d.size:=by simp [tagged]
theorem tagged_get (d:Array EvS) {i:Nat} (h:i<d.size):(tagged d)[i]! = (d[i]!,i):=by
 rw [getElem!_pos _ i (by rw [tagged_size];exact h)]
 simp [tagged]
theorem map_get (d:Array (EvS × Nat)) {i:Nat} (h:i<d.size):(d.map Prod.fst)[i]! = (d[i]!).1:=by
 rw [getElem!_pos _ i (by simpa using h),getElem!_pos d i h]
 simp
theorem tagged_fst (d:Array EvS):(tagged d).map Prod.fst=d:=by
 refine Array.ext (by simp [tagged]) fun i h1 h2=>?_
 have:=map_get (tagged d) (i:=i) (by rw [tagged_size];exact h2)
 rw [tagged_get d h2,getElem!_pos _ i h1,getElem!_pos d i h2] at this
 exact this
theorem flat_fst (k:Nat) (d:Array (EvS × Nat)):flatK encT k d=flatK encE k (d.map Prod.fst):=by
 refine ext_get! (by simp) fun t ht=>?_
 have ht':t<d.size*k:=by simpa using ht
 rw [get_flatK _ _ _ t ht',get_flatK _ _ _ t (by simpa using ht')]
 have hk:0<k:=by
  rcases Nat.eq_zero_or_pos k with h | h
  ·subst h;simp at ht'
  ·exact h
 rw [map_get d ((Nat.div_lt_iff_lt_mul hk).2 ht')]
 rfl
theorem swk_fst {k:Nat} {w0 w:World} {blk off:Nat} {d:Array (EvS × Nat)} (h:SWK encT k w0 blk off d w):SWK encE k w0 blk off (d.map Prod.fst) w:=by
 obtain ⟨n,os,rfl⟩:=h
 refine ⟨n,os,?_⟩
 unfold sortWorldK putRowK
 rw [flat_fst]
theorem row_tagged {w0:World} {g:Nat} {d:Array EvS} (R:RowK encE 7 w0 g 0 d):RowK encT 7 w0 g 0 (tagged d):=by
 refine ⟨fun x=>encE_len x.1,fun x=>encE_one x.1,?_,R.hblk⟩
 have h:=R.hH
 unfold HoldsK at h ⊢
 rw [flat_fst,tagged_fst]
 exact h
def keyT (p:EvS × Nat):Int:=p.1.e.at_
theorem cmp_laysT (g N:Nat) (w:World):CmpLays Tryz.prog 114 #[] encT 7 (fun x y=>cmpE x.1 y.1) g 0 N w:=fun m os dk _ x y=>plan2_any x.1.e.at_ y.1.e.at_ _ _ _ _ _ _ _ _ _ _ _ _ _
def Stable (d0 d:Array EvS):Prop:=(d.toList.Pairwise fun x y=>x.e.at_≤y.e.at_)∧∀ k,(d.toList.filter fun x=>decide (x.e.at_=k))=d0.toList.filter fun x=>decide (x.e.at_=k)
theorem stable_fst {d0:Array EvS} {d:Array (EvS × Nat)} (ht:TagOk Prod.snd (tagged d0) d) (hs:SrtT Prod.snd keyT d 0 d.size):Moved d0 (d.map Prod.fst)∧Stable d0 (d.map Prod.fst):=by
 have h0:∀ i,i<(tagged d0).size→Prod.snd (tagged d0)[i]! = i:=fun i hi=>by rw [tagged_get d0 (by rw [← tagged_size];exact hi)]
 have hz:d.size=d0.size:=ht.size.trans (tagged_size d0)
 obtain ⟨g1,g2⟩:=ht.out h0 hs
 refine ⟨⟨by simp [hz],fun i hi=>?_⟩,?_,fun k=>?_⟩
 ·obtain ⟨h1,h2⟩:=ht.was i (by rw [hz];exact hi)
  rw [tagged_size] at h1
  refine ⟨_,h1,?_⟩
  rw [map_get d (by rw [hz];exact hi),h2,tagged_get d0 h1]
 ·rw [Array.toList_map,List.pairwise_map]
  exact g1
 ·have h3:=congrArg (List.map Prod.fst) (g2 k)
  have h4:(tagged d0).toList.map Prod.fst=d0.toList:=by rw [← Array.toList_map,tagged_fst]
  rw [Array.toList_map,List.filter_map,← h4,List.filter_map]
  exact h3
theorem sort_x (g N cap : Nat) (d0 : Array EvS) (w0 : World) (R : RowK encE 7 w0 g 0 d0) (hN : d0.size = N) (hsz : N < 1000000000000000000) :
  Calls Tryz.prog 113 #[.slice (some ⟨g,0,none⟩) N cap,.func (.func 114) #[] #[]] w0 fun e w'=>e=.returned (.tuple #[])∧∃ d',Moved d0 d'∧Stable d0 d'∧SWK encE 7 w0 g 0 d' w':=by
 have hcf:∀ x y:EvS × Nat,(fun x y:EvS × Nat=>cmpE x.1 y.1) x y<0↔keyT x<keyT y:=fun x y=>by
  show cmpI x.1.e.at_ y.1.e.at_<0↔x.1.e.at_<y.1.e.at_
  unfold cmpI
  split
  ·omega
  ·split <;> omega
 have h0:∀ i,i<(tagged d0).size→Prod.snd (tagged d0)[i]! = i:=fun i hi=>by rw [tagged_get d0 (by rw [← tagged_size];exact hi)]
 refine (sortStable_x typesAs Tryz.func173 Tryz.func189 Tryz.func163 Tryz.func162 Tryz.func143 Tryz.func113 encT 114 #[] (fun x y=>cmpE x.1 y.1) g 0 N cap (tagged d0) w0 Prod.snd keyT hcf h0 (enters_of Tryz.func114 (by kernel_rfl) rfl) (cmp_laysT g N w0) (row_tagged R) ((tagged_size d0).trans hN) (SWK.start (row_tagged R).hH) hsz).mono ?_
 rintro e w' ⟨he,d',⟨ht,hs⟩,hS⟩
 obtain ⟨h1,h2⟩:=stable_fst ht hs
 exact ⟨he,_,h1,h2,swk_fst hS⟩
end Go.Proofs.YtlkolcokjmlmjaaGreat.Wk
namespace Go.Proofs.YtlkolcokjmlmjaaGreat.Tx
open Go.RowKit Go.Maps Go.Proofs.YtlkolcokjmlmjaaGreat.Sh
theorem sorts_list {D5 D:Array Wk.EvS} {n:Int} {l:List EvM} (h:Wk.Stable D D5) (hd:D.toList.map Wk.EvS.e=l.filter (fun e=>decide (n<e.at_))):Sorts n l (D5.toList.map Wk.EvS.e):=by
 refine ⟨List.pairwise_map.2 h.1,fun k=>?_⟩
 have h1:=congrArg (List.map Wk.EvS.e) (h.2 k)
 unfold dueL planR
 rw [← hd,List.filter_map,List.filter_map]
 exact h1
set_option maxRecDepth 100000 in
set_option maxHeartbeats 6400000 in
theorem plan_x (F M : Nat → Prop) (b : Nat) (c : CSt) (v : Value) (l : List EvM) (w : World) (h : FcAt F w b c M) (hv : EvsF F w v l) (hn : l.length ≤ 1000000) (hd : ∀ e ∈ l, e.data.length ≤ 140737488355328) :
  Calls Tryz.prog 63 #[.pointer (some ⟨b,0,none⟩),v] w fun e w'=>e=.returned (.tuple #[])∧∃ R,Sorts c.calls l R∧FcPost F M w b { c with plan:=R } w':=by
 have HAT:=Lib.hid h
 have HV:=Lib.hid hv
 have HN:=Lib.hid hn
 have HD:=Lib.hid hd
 obtain ⟨A0,c0,rfl,_,_⟩:=evs_slice hv
 obtain ⟨n0,hn0⟩:∃ n,l.length=n:=⟨_,rfl⟩
 rw [hn0] at HV ⊢
 have HN0:=Lib.hid hn0
 clear h hv hn hd hn0
 go_enter Tryz.func63,Tryz.ntmps63
 go_wp2_with fail
 refine (calls_any HAT.out).mono ?_
 rintro e w1 ⟨rfl,rfl⟩
 have HBA:Hid (Below w.heap.size w (w.alloc (.cells #[.int .i64 c.calls] 3))):=(Below.refl _ _).alloc (Nat.le_refl _) _
 have HBK:Hid (Blk (w.alloc (.cells #[.int .i64 c.calls] 3)) w.heap.size 3 #[.int .i64 c.calls]):=Blk.new _ _ _
 obtain ⟨cl,hcl⟩:∃ x,c.calls=x:=⟨_,rfl⟩
 rw [hcl] at HBA HBK ⊢
 have HCL:=Lib.hid hcl
 clear hcl
 go_wp2_with fail
 refine (copies_big F _ l _ (by have:=HV.out.below HBA.out;exact this) HN.out HD.out (fun k hk=>Nat.lt_of_lt_of_le (HAT.out.low k hk) HBA.out.size)).mono ?_
 rintro e w2 ⟨v2,rfl,hown,hb2⟩
 have HB2:=Lib.hid hb2
 have HB02:=Lib.hid (HBA.out.trans (hb2.mono HBA.out.size))
 have HBK2:Hid (Blk w2 w.heap.size 3 #[.int .i64 cl]):=HBK.out.below hb2 HBK.out.lt
 obtain ⟨x,hX,hM⟩:=HAT.out
 have HX:=Lib.hid hX
 have HM:=Lib.hid hM
 have HOWN:=Lib.hid hown
 have hbl:=hX.blk.lt
 have HBB:Hid (Blk w2 b 68 (fcC c x)):=hX.blk.below HB02.out hbl
 rcases hown.1 with ⟨ds,hrow,_⟩
 rcases hrow.2 with ⟨rfl,hl0⟩ | ⟨g,cap,cur,rfl,_⟩
 ·have HL0:=Lib.hid hl0
  have b4:=HBB.out.cell 4
  have f4:=HBB.out.frozen 4
  clear hX hM hown hb2 hrow hl0
  go_wp2_with fail
  refine (Wk.delete_none _ _).mono ?_
  rintro e w3 ⟨rfl,rfl⟩
  have HBS:Hid (Blk (w3.setCell ⟨b,4,none⟩ (.slice none 0 0)) b 68 ((fcC c x).setIfInBounds 4 (.slice none 0 0))):=HBB.out.set_ 4 _
  have s4:(w3.setCell ⟨b,4,none⟩ (.slice none 0 0)).cell? ⟨b,4,none⟩=some (.slice none 0 0):=HBS.out.cell 4
  go_wp2_with fail
  refine (Wk.sortStable_none _ _).mono ?_
  rintro e w4 ⟨rfl,rfl⟩
  clear b4 f4 s4
  go_wp2
  go_end0
  have hl:l=[]:=List.eq_nil_of_length_eq_zero HL0.out
  refine ⟨rfl,[],⟨List.Pairwise.nil,fun k=>by rw [hl];rfl⟩,fc_plan (g:=w.heap.size) HX.out HM.out (Nat.le_refl _) HB02.out (Only.refl _ _) (InL.nil_ _ _ _)⟩
 ·obtain ⟨d0,hd0,R0,hin,hBg,hNg,hlc,hcm⟩:=Wk.row_of_own hown
  have hn1:d0.size=l.length:=by rw [← hd0];simp
  have b4:=HBB.out.cell 4
  have f4:=HBB.out.frozen 4
  have hz:=HB02.out.size
  have hwa:=HBA.out.size
  have hdel:=Wk.delete_any g cap l.length w.heap.size cl d0 w2 (HBK2.out.cell 0) (fun e=>by simp at hBg;omega) HBK2.out.lt R0 hn1 hlc (by have:=HN.out;omega)
  have HDEL:=Lib.hid hdel
  have HD0:=Lib.hid hd0
  have HIN:=Lib.hid hin
  have HR0:=Lib.hid R0
  have HNG:=Lib.hid hNg
  have HBG:Hid (w.heap.size≤g):=by unfold Hid;omega
  have HLC:=Lib.hid hlc
  have HCM:=Lib.hid hcm
  have HN1:=Lib.hid hn1
  clear hX hM hown hb2 hrow hd0 R0 hin hBg hNg hlc hcm hn1 hz hwa hdel
  go_wp2_with fail
  refine HDEL.out.mono ?_
  rintro e w3 ⟨D,hfil,rfl,hH3,ho3⟩
  have hgb:b≠g:=fun e=>by have:=HBG.out;omega
  have HBB3:Hid (Blk w3 b 68 (fcC c x)):=ho3.blk HBB.out hgb
  have a4:=HBB3.out.cell 4
  have g4:=HBB3.out.frozen 4
  have HBS:Hid (Blk (w3.setCell ⟨b,4,none⟩ (.slice (some ⟨g,0,none⟩) D.size cap)) b 68 ((fcC c x).setIfInBounds 4 (.slice (some ⟨g,0,none⟩) D.size cap))):=HBB3.out.set_ 4 _
  have s4:(w3.setCell ⟨b,4,none⟩ (.slice (some ⟨g,0,none⟩) D.size cap)).cell? ⟨b,4,none⟩=some (.slice (some ⟨g,0,none⟩) D.size cap):=HBS.out.cell 4
  have hds:D.size≤d0.size:=by
   have h1:=congrArg List.length hfil
   have h2:=List.length_filter_le (Wk.keepE cl) d0.toList
   simp only [Array.length_toList] at h1 h2
   omega
  have ho4:Only (fun k=>k=b) w3 (w3.setCell ⟨b,4,none⟩ (.slice (some ⟨g,0,none⟩) D.size cap)):=Only.set_ (M:=fun k=>k=b) (g:=b) (i:=4) (Only.refl _ w3) (.inl rfl) _
  have hg3:g<w3.heap.size:=Nat.lt_of_lt_of_le HR0.out.hblk ho3.size
  have HR4:Hid (RowK Wk.encE 7 (w3.setCell ⟨b,4,none⟩ (.slice (some ⟨g,0,none⟩) D.size cap)) g 0 D):=⟨Wk.encE_len,Wk.encE_one,Wk.HoldsK.of_block hH3 (ho4.block g hg3 (fun e=>hgb e.symm)),Nat.lt_of_lt_of_le hg3 ho4.size⟩
  have HO3:=Lib.hid ho3
  have HO4:=Lib.hid ho4
  have HFIL:=Lib.hid hfil
  have HDS:=Lib.hid hds
  have HG3:=Lib.hid hg3
  have HGB:=Lib.hid hgb
  clear b4 f4 hH3 ho3 hfil hds ho4 hg3 hgb
  obtain ⟨dn,hdn⟩:∃ n,D.size=n:=⟨_,rfl⟩
  rw [hdn] at s4 HR4 HO4 ⊢
  have HDN:=Lib.hid hdn
  clear hdn
  go_wp2_with fail
  refine (Wk.sort_x g dn cap D _ HR4.out HDN.out (by have:=HDN.out;have:=HDS.out;have:=HN1.out;have:=HN.out;omega)).mono ?_
  rintro e w5 ⟨rfl,D5,hmov,hst5,hs5⟩
  have HST5:=Lib.hid hst5
  have HMOV:=Lib.hid hmov
  have HS5:=Lib.hid hs5
  clear a4 g4 s4 hmov hs5 hst5
  go_wp2
  go_end0
  have ho5:=Wk.swk_only HS5.out
  have hz5:=ho5.size
  have hz4:=HO4.out.size
  have hz3:=HO3.out.size
  have hz2:=HB02.out.size
  have hza:=HBA.out.size
  have hHD5:=HS5.out.holds HR4.out.hblk HR4.out.hH HMOV.out.1
  have hgw:=HBG.out
  have hMl:∀ k,M k→k<w.heap.size:=HAT.out.lt
  have hmem:∀ i,i<D5.size→∃ k,k<d0.size∧D5[i]! = d0[k]! := fun i hi=>by
   obtain ⟨j,hj,e⟩:=HMOV.out.2 i (by rw [← HMOV.out.1];exact hi)
   have h1:D[j]! ∈ D.toList:=List.mem_of_getElem? (Wk.toList_at hj)
   rw [HFIL.out] at h1
   obtain ⟨k,hk,e2⟩:=List.getElem_of_mem (List.mem_filter.1 h1).1
   have hk':k<d0.size:=by simpa using hk
   refine ⟨k,hk',?_⟩
   have h2:=Wk.toList_at hk'
   rw [List.getElem?_eq_getElem hk] at h2
   injection h2 with h2
   rw [e,← e2,h2]
  have hcap:D5.size≤cap:=by
   have h1:=HMOV.out.1
   have h2:=HDS.out
   have h3:=HN1.out
   have h4:=HLC.out
   omega
  have h15:D5.size=dn:=HMOV.out.1.trans HDN.out
  refine ⟨rfl,D5.toList.map Wk.EvS.e,?_,?_⟩
  ·rw [HCL.out]
   refine sorts_list HST5.out ?_
   rw [HFIL.out,keep_filter,HD0.out]
  ·have hb3:Below w.heap.size w w3:=HB02.out.trans ⟨HO3.out.os,HO3.out.tape,HO3.out.output,HO3.out.size,fun k hk=>HO3.out.block k (by omega) (fun e=>by omega)⟩
   refine fc_plan (w3:=w3) (g:=g) (v:=.slice (some ⟨g,0,none⟩) dn cap) HX.out HM.out HBG.out hb3 ho5 ?_
   rw [← h15]
   refine Wk.row_in hHD5 (by have:=HG3.out;omega) (.inr ⟨hgw,by have:=HG3.out;omega,fun hm=>by have:=hMl g hm;omega⟩) hcap HCM.out (fun i hi=>?_)
   obtain ⟨k,hk,e⟩:=hmem i hi
   rw [e]
   have h1:=HIN.out k hk
   have h2:Only (fun k=>k=g∨k=b) w2 w5:=((HO3.out.more (fun k _ e=>.inl e)).trans HO4.out (fun k e=>.inl (.inr e))).trans ho5 (fun k e=>.inl (.inl e))
   have h3:=Wk.EvIn.only h1 h2 (fun k hk e=>by
    rcases e with e | e
    ·exact HNG.out (e ▸ hk)
    ·have h9:=hk.1
     have:=HX.out.blk.lt
     omega)
   exact By.mono h3 (fun k _ hk=>.inr ⟨by have:=hk.1;omega,by have:=hk.2.1;omega,fun hm=>by have:=hMl k hm;have:=hk.1;omega⟩)
end Go.Proofs.YtlkolcokjmlmjaaGreat.Tx
namespace Go.Proofs.YtlkolcokjmlmjaaGreat.Tx
open Go.RowKit Go.Maps Go.Proofs.YtlkolcokjmlmjaaGreat.Sh
theorem due_len {R S:List EvM} (h:∀ k,dueL k R=dueL k S):R.length=S.length:=by
 have hp:List.Perm (R.map fun e=>e.at_) (S.map fun e=>e.at_):=by
  rw [List.perm_iff_count]
  intro a
  have h1:∀ l:List EvM,List.count a (l.map fun e=>e.at_)=(dueL a l).length:=by
   intro l
   induction l with
   | nil=>rfl
   | cons e l ih =>
    unfold dueL at ih ⊢
    rw [List.map_cons,List.count_cons,List.filter_cons,ih]
    by_cases he:e.at_=a
    ·rw [if_pos (by simpa using he),if_pos (by simpa using he)];rfl
    ·rw [if_neg (by simpa using he),if_neg (by simpa using he)];rfl
  rw [h1,h1,h a]
 have:=hp.length_eq
 rwa [List.length_map,List.length_map] at this
theorem Sorts.planR {c:CSt} {l R:List EvM} (h:Sorts c.calls l R):PlanR c l R:=by
 refine ⟨due_len h.same,fun e he=>?_⟩
 have h1:e∈dueL e.at_ R:=List.mem_filter.2 ⟨he,decide_eq_true rfl⟩
 rw [h.same] at h1
 have h2:=List.mem_filter.1 (List.mem_filter.1 h1).1
 exact ⟨h2.1,of_decide_eq_true h2.2⟩
end Go.Proofs.YtlkolcokjmlmjaaGreat.Tx
