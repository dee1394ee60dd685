/- Texts put together: VGx1, VGx2, VGx3, VGx5, VGx6, VGx4. -/
import Derived.Test.YtlkolcokjmlmjaaGreatQv42
import Derived.Test.YtlkolcokjmlmjaaGreatQv40
set_option linter.unusedVariables false
set_option linter.unusedSimpArgs false
namespace Go.Proofs.YtlkolcokjmlmjaaGreat.Wk
open Go.Shelf Go.RowKit Go.Lib Go.Sort
section
variable {β:Type} [Inhabited β]
structure Within (a b:Nat) (d D:Array β):Prop where
 size:D.size=d.size
 out:∀ t,t<a∨b≤t→D[t]! = d[t]!
 ins:∀ i,a≤i→i<b→∃ j,a≤j∧j<b∧D[i]! = d[j]!
theorem Within.refl (a b:Nat) (d:Array β):Within a b d d:=⟨rfl,fun _ _=>rfl,fun i h1 h2=>⟨i,h1,h2,rfl⟩⟩
theorem Within.trans {a b:Nat} {d D E:Array β} (h:Within a b d D) (h2:Within a b D E):Within a b d E:=by
 refine ⟨h2.size.trans h.size,fun t ht=>(h2.out t ht).trans (h.out t ht),fun i h3 h4=>?_⟩
 obtain ⟨j,j1,j2,j3⟩:=h2.ins i h3 h4
 obtain ⟨q,q1,q2,q3⟩:=h.ins j j1 j2
 exact ⟨q,q1,q2,j3.trans q3⟩
theorem Within.more {a b a' b':Nat} {d D:Array β} (h:Within a b d D) (ha:a'≤a) (hb:b≤b'):Within a' b' d D:=by
 refine ⟨h.size,fun t ht=>h.out t (by omega),fun i h1 h2=>?_⟩
 by_cases hi:a≤i∧i<b
 ·obtain ⟨j,j1,j2,j3⟩:=h.ins i hi.1 hi.2
  exact ⟨j,by omega,by omega,j3⟩
 ·exact ⟨i,h1,h2,h.out i (by omega)⟩
theorem Within.swp {a b:Nat} (D:Array β) {i j:Nat} (hi:i<D.size) (hj:j<D.size) (h1:a≤i) (h2:i<b) (h3:a≤j) (h4:j<b):Within a b D (swp D i j):=by
 refine ⟨size_swp D i j,fun t ht=>swp_other D i j t (by omega) (by omega),fun t g1 g2=>?_⟩
 rw [get_swp D hi hj]
 refine ⟨_,?_,?_,rfl⟩
 ·split;exact h3;split;exact h1;exact g1
 ·split;exact h4;split;exact h2;exact g2
def TagInc (tag:β→Nat) (d:Array β) (a b:Nat):Prop:=∀ i j,a≤i→i<j→j<b→tag d[i]!<tag d[j]!
structure InsO (tag:β→Nat) (key:β→Int) (d0 d D:Array β) (a b i:Nat):Prop where
 tags:TagOk tag d0 D
 win:Within a (min i b) d D
 srt:SrtT tag key D a (min i b)
structure InsI (tag:β→Nat) (key:β→Int) (d0 d D:Array β) (a i j:Nat):Prop where
 tags:TagOk tag d0 D
 win:Within a (i+1) d D
 rest:∀ p q,a≤p→p<q→q≤i→p≠j→q≠j→tlt tag key D[p]! D[q]!
 behind:∀ q,j<q→q≤i→tlt tag key D[j]! D[q]!
 last:∀ p,a≤p→p≤i→p≠j→tag D[p]!<tag D[j]!
variable {tag:β→Nat} {key:β→Int} {d0 d D:Array β} {a b i j:Nat}
theorem InsO.start (h:TagOk tag d0 d):InsO tag key d0 d d a b (a+1) :=
 ⟨h,Within.refl _ _ _,fun p q h1 h2 h3=>by omega⟩
theorem InsO.inner (h:InsO tag key d0 d D a b i) (ht:TagInc tag d a b) (hai:a<i) (hib:i<b):InsI tag key d0 d D a i i:=by
 have hm:min i b=i:=by omega
 have hw:=h.win
 have hs:=h.srt
 rw [hm] at hw hs
 refine ⟨h.tags,hw.more (Nat.le_refl _) (by omega),fun p q h1 h2 h3 h4 h5=>hs p q h1 h2 (by omega),fun q h1 h2=>by omega,fun p h1 h2 h3=>?_⟩
 obtain ⟨r,r1,r2,r3⟩:=hw.ins p h1 (by omega)
 rw [r3,hw.out i (.inr (Nat.le_refl _))]
 exact ht r i r1 r2 hib
theorem InsI.step (h:InsI tag key d0 d D a i j) {y:Nat} (hy:j=y+1) (hay:a≤y) (hji:j≤i) (hi:i<D.size) (hk:key D[j]!<key D[y]!):InsI tag key d0 d (swp D j y) a i y:=by
 have hj:j<D.size:=by omega
 have hyD:y<D.size:=by omega
 have hx:tlt tag key D[j]! D[y]! := .inl hk
 refine ⟨h.tags.swp hj hyD,h.win.trans (Within.swp D hj hyD (by omega) (by omega) hay (by omega)),fun p q h1 h2 h3 h4 h5=>?_,fun q h1 h2=>?_,fun p h1 h2 h3=>?_⟩
 ·rw [get_swp D hj hyD,get_swp D hj hyD]
  by_cases hp:p=j
  ·rw [if_pos hp,if_neg (by omega),if_neg h5]
   exact h.rest y q hay (by omega) h3 (by omega) (by omega)
  ·rw [if_neg hp,if_neg h4]
   by_cases hq:q=j
   ·rw [if_pos hq]
    exact h.rest p y h1 (by omega) (by omega) hp (by omega)
   ·rw [if_neg hq,if_neg h5]
    exact h.rest p q h1 h2 h3 hp hq
 ·rw [get_swp D hj hyD,get_swp D hj hyD,if_neg (by omega),if_pos rfl]
  by_cases hq:q=j
  ·rw [if_pos hq];exact hx
  ·rw [if_neg hq,if_neg (by omega)]
   exact h.behind q (by omega) h2
 ·rw [get_swp D hj hyD,get_swp D hj hyD,if_neg (show ¬ y=j by omega),if_pos rfl]
  by_cases hp:p=j
  ·rw [if_pos hp];exact h.last y hay (by omega) (by omega)
  ·rw [if_neg hp,if_neg h3]
   exact h.last p h1 h2 hp
theorem InsI.here (h:InsI tag key d0 d D a i j) (haj:a<j) (hji:j≤i) (hib:i<b) (hk:¬ key D[j]!<key D[j - 1]!):InsO tag key d0 d D a b (i+1):=by
 have hm:min (i+1) b=i+1:=by omega
 have hx:tlt tag key D[j - 1]! D[j]! := by
  have:=h.last (j - 1) (by omega) (by omega) (by omega)
  by_cases he:key D[j - 1]! = key D[j]!
  ·exact .inr ⟨he,this⟩
  ·exact .inl (by omega)
 refine ⟨h.tags,by rw [hm];exact h.win,by
  rw [hm]
  intro p q h1 h2 h3
  by_cases hp:p=j
  ·subst hp;exact h.behind q h2 (by omega)
  ·by_cases hq:q=j
   ·subst hq
    by_cases hp2:p=q - 1
    ·rw [hp2];exact hx
    ·exact (h.rest p (q - 1) h1 (by omega) (by omega) hp (by omega)).trans hx
   ·exact h.rest p q h1 h2 (by omega) hp hq⟩
theorem InsI.first (h:InsI tag key d0 d D a i a) (hib:i<b):InsO tag key d0 d D a b (i+1):=by
 have hm:min (i+1) b=i+1:=by omega
 refine ⟨h.tags,by rw [hm];exact h.win,by
  rw [hm]
  intro p q h1 h2 h3
  by_cases hp:p=a
  ·subst hp;exact h.behind q h2 (by omega)
  ·exact h.rest p q h1 h2 (by omega) hp (by omega)⟩
theorem InsO.done (h:InsO tag key d0 d D a b i) (hb:b≤i):TagOk tag d0 D∧Within a b d D∧SrtT tag key D a b:=by
 have hm:min i b=b:=by omega
 have hw:=h.win
 have hs:=h.srt
 rw [hm] at hw hs
 exact ⟨h.tags,hw,hs⟩
end
end Go.Proofs.YtlkolcokjmlmjaaGreat.Wk
set_option linter.unusedVariables false
set_option linter.unusedSimpArgs false
namespace Go.Proofs.YtlkolcokjmlmjaaGreat.Wk
open Go.Shelf Go.RowKit Go.Lib Go.Sort
def StepX {α:Type} [Inhabited α] (tag:α→Nat) (key:α→Int) (dt:Array α) (enc:α→List Value) (k:Nat) (w0:World) (blk off:Nat) (d:Array α) (a b:Nat) (e:Ending) (w':World):Prop :=
 e=.returned (.tuple #[])∧∃ d',(TagOk tag dt d'∧Within a b d d'∧SrtT tag key d' a b)∧SWK enc k w0 blk off d' w'
section
variable {P:Program} {α:Type} [Inhabited α] {k:Nat}
set_option maxHeartbeats 8000000 in
set_option maxRecDepth 1000000 in
theorem insertion_x (T : TypesAs P k) (FG : P.funcs[162]? = some Tryz.f162) (enc : α → List Value) (g : Nat) (cb : Array Value) (cf : α → α → Int) (blk off N cap a b : Nat) (d0 dt d : Array α) (w0 w : World) (tag : α → Nat) (key : α → Int) (hcf : ∀ x y, cf x y < 0 ↔ key x < key y) (htg : TagOk tag dt d) (hti : TagInc tag d a b)
  (eg:∀ args w,(callFunc g args).run P w=.ok (.enter g args) w) (hcmp:CmpLays P g cb enc k cf blk off N w0)
  (R:RowK enc k w0 blk off d0) (hN0:d0.size=N) (hdN:d.size=N) (S:SWK enc k w0 blk off d w) (hab:a≤b) (hb:b≤N) (hsz:N<4611686018427387904) :
  Calls P 162 #[.slice (some ⟨blk,off,none⟩) N cap,.int .i64 a,.int .i64 b,.func (.func g) #[] cb] w (StepX tag key dt enc k w0 blk off d a b):=by
 have T0:Aside (TypesAs P k):=T
 have mixed:=T.mixed;have t3:=T.t3;have a3:=T.a3;have z3:=T.z3;have t4:=T.t4;have a4:=T.a4;have z4:=T.z4;have t33:=T.t33;have a33:=T.a33;have z33:=T.z33;have aE:=T.aE;have zE:=T.zE
 clear T
 have S0:Aside (SWK enc k w0 blk off d w):=S
 have R0:Aside (RowK enc k w0 blk off d0):=R
 have C0:Aside (CmpLays P g cb enc k cf blk off N w0):=hcmp
 have HT:Aside (TagOk tag dt d):=htg
 have HI:Aside (TagInc tag d a b):=hti
 have HCF:Aside (∀ x y,cf x y<0↔key x<key y):=hcf
 clear S R hcmp htg hti hcf
 have wa1:IntKind.i64.wrap ((a:Int)+1)=((a+1:Nat):Int):=by rw [IntKind.wrap_i64];omega
 go_enter FG,Tryz.ntmps162
 go_wp2
 go_loopg [8] (b - a) (fun kx s wr=>∃ (i:Nat) (D:Array α),s=.int .i64 i∧a<i∧i≤b+1∧b - i≤kx∧Aside (InsO tag key dt d D a b i∧SWK enc k w0 blk off D wr))
 case atStart=>exact ⟨a+1,d,by simp,by omega,by omega,by omega,InsO.start HT.out,S0.out⟩
 case round =>
  clear S0
  obtain ⟨i,D,rfl,hai,hib,hkx,S1⟩:=hrel
  by_cases hlt:i<b
  ·have hlt':(i:Int)<(b:Int):=by omega
   have wi1:IntKind.i64.wrap ((i:Int)+1)=((i+1:Nat):Int):=by rw [IntKind.wrap_i64];omega
   go_wp2
   go_loopg [9] i (fun ky s wr=>∃ (j:Nat) (D:Array α),s=.int .i64 j∧a≤j∧j≤i∧j≤ky∧Aside (InsI tag key dt d D a i j∧SWK enc k w0 blk off D wr))
   case atStart=>exact ⟨i,D,rfl,by omega,Nat.le_refl _,Nat.le_refl _,S1.out.1.inner HI.out hai hlt,S1.out.2⟩
   case round =>
    clear S1
    obtain ⟨j,D,rfl,haj,hji,hky,S1⟩:=hrel
    have hDs:D.size=N:=S1.out.1.win.size.trans hdN
    by_cases hja:a<j
    ·have hjaz:(a:Int)<(j:Int):=by omega
     have hjad:decide ((a:Int)<(j:Int))=true:=by simp;omega
     obtain ⟨y,hy⟩:∃ y,j - 1=y:=⟨_,rfl⟩
     have hyi:(j:Int) - 1=(y:Int):=by omega
     have hjN:j<N:=by omega
     have hyN:y<N:=by omega
     have bj:(j:Int)<(N:Int):=by omega
     have bj0:(0:Int)≤(j:Int):=by omega
     have ej0:((j:Int)).toNat=j:=by omega
     have by':(y:Int)<(N:Int):=by omega
     have by0:(0:Int)≤(y:Int):=by omega
     have ey0:((y:Int)).toNat=y:=by omega
     have wy:IntKind.i64.wrap (y:Int)=(y:Int):=by rw [IntKind.wrap_i64];omega
     obtain ⟨xp,hxp⟩:∃ x,D[j]! = x:=⟨_,rfl⟩
     obtain ⟨xq,hxq⟩:∃ x,D[y]! = x:=⟨_,rfl⟩
     have hDs0:D.size=d0.size:=hDs.trans hN0.symm
     have lp:∀ n' os',Sem.run P (loadCellsFrom ⟨blk,off+j*k,none⟩ 0 k #[]) (grow (wr.drewN n') os')=.ok (enc xp).toArray (grow (wr.drewN n') os'):=fun n' os'=>by rw [← hxp];exact S1.out.2.ld R0.out hDs0 P j (by omega) n' os'
     have lq:∀ n' os',Sem.run P (loadCellsFrom ⟨blk,off+y*k,none⟩ 0 k #[]) (grow (wr.drewN n') os')=.ok (enc xq).toArray (grow (wr.drewN n') os'):=fun n' os'=>by rw [← hxq];exact S1.out.2.ld R0.out hDs0 P y (by omega) n' os'
     have hcg:=fun n' os'=>S1.out.2.cmp C0.out hDs xp xq n' os'
     have SG:Aside (∀ n' os',SWK enc k w0 blk off D (grow (wr.drewN n') os')):=fun n' os'=>S1.out.2.grown n' os'
     have HXP:Aside (D[j]! = xp):=hxp
     have HXQ:Aside (D[y]! = xq):=hxq
     clear hxp hxq hDs0
     by_cases hlv:cf xp xq<0
     ·have HK:Aside (key D[j]!<key D[y]!):=by show key D[j]!<key D[y]!;rw [HXP.out,HXQ.out];exact (HCF.out xp xq).1 hlv
      have hdv:decide (cf xp xq<0)=true:=by simp;omega
      go_wp2_with fail
      go_quiet_grown (first | (go_at_fn g;refine Calls.grown_of (hcg _ _)))
      go_wp2_with fail
      have S3:Aside (InsI tag key dt d D a i j∧SWK enc k w0 blk off D (grow (wr.drewN nq) osq)):=⟨S1.out.1,SG.out nq osq⟩
      clear lp lq hcg SG S1
      generalize grow (wr.drewN nq) osq=wr2 at S3 ⊢
      have hxD:j<D.size:=by omega
      have hyD:y<D.size:=by omega
      have ea44:((j:Int)).toNat=j:=by omega
      have pa44:(0:Int)≤(j:Int):=by omega
      have ba44:(j:Int)<(N:Int):=by omega
      have ra44:IntKind.i64.wrap ((j:Int))=(j:Int):=by rw [IntKind.wrap_i64];omega
      have ec44:((y:Int)).toNat=y:=by omega
      have pc44:(0:Int)≤(y:Int):=by omega
      have bc44:(y:Int)<(N:Int):=by omega
      have rc44:IntKind.i64.wrap ((y:Int))=(y:Int):=by rw [IntKind.wrap_i64];omega
      have hDs0:D.size=d0.size:=hDs.trans hN0.symm
      have S2:Aside (InsI tag key dt d (swp D j y) a i y∧SWK enc k w0 blk off (swp D j y) ((wr2.drew.setCells blk (off+j*k) (enc D[y]!)).setCells blk (off+y*k) (enc D[j]!))):=⟨S3.out.1.step (by omega) (by omega) hji (by omega) HK.out,S3.out.2.swapped R0.out j y hxD hyD⟩
      have l44a:=S3.out.2.ld1 R0.out hDs0 P j hxD
      have l44b:=S3.out.2.ld1 R0.out hDs0 P y hyD
      have s44a:=S3.out.2.st1 R0.out hDs0 P j hxD D[y]!
      have s44b:=S3.out.2.st2 R0.out hDs0 P j y hxD hyD D[y]! D[j]!
      have n44a:(enc D[j]!).length=k:=R0.out.hk _
      have n44b:(enc D[y]!).length=k:=R0.out.hk _
      generalize enc D[j]! = cI44 at S2 l44a s44b n44a
      generalize enc D[y]! = cJ44 at S2 l44b s44a s44b n44b
      clear S3 hxD hyD hDs hDs0
      go_big_region_o
      clear l44a l44b s44a s44b
      generalize (wr2.drew.setCells blk (off+j*k) cJ44).setCells blk (off+y*k) cI44=w2 at S2 ⊢
      go_wp2
      go_roundg y
      case measure=>omega
      case rel=>exact ⟨y,_,by simp,by omega,by omega,Nat.le_refl _,S2⟩
     ·have HK:Aside (¬ key D[j]!<key D[j - 1]!):=by show ¬ key D[j]!<key D[j - 1]!;rw [hy,HXP.out,HXQ.out];exact fun e=>hlv ((HCF.out xp xq).2 e)
      have hdv:decide (cf xp xq<0)=false:=by simp;omega
      go_wp2_with fail
      go_quiet_grown (first | (go_at_fn g;refine Calls.grown_of (hcg _ _)))
      go_wp2
      go_roundg (b - (i+1))
      case measure=>omega
      case rel=>exact ⟨i+1,D,by simp,by omega,by omega,Nat.le_refl _,S1.out.1.here hja hji hlt (by have:=HK.out;omega),SG.out _ _⟩
    ·have hjaz:¬ (a:Int)<(j:Int):=by omega
     have hjad:decide ((a:Int)<(j:Int))=false:=by simp;omega
     have SD:Aside (InsO tag key dt d D a b (i+1)∧SWK enc k w0 blk off D wr.drew):=⟨(by
      have e:j=a:=by omega
      have h1:=S1.out.1
      rw [e] at h1
      exact h1.first hlt),S1.out.2.drew⟩
     go_wp2_with fail
     go_big_region_o
     all_goals go_wp2
     go_roundg (b - (i+1))
     case measure=>omega
     case rel=>exact ⟨i+1,D,by simp,by omega,by omega,Nat.le_refl _,SD⟩
  ·have hlt':¬ (i:Int)<(b:Int):=by omega
   go_wp2
   go_end0
   exact ⟨rfl,D,S1.out.1.done (by omega),S1.out.2⟩
end
end Go.Proofs.YtlkolcokjmlmjaaGreat.Wk
set_option linter.unusedVariables false
set_option linter.unusedSimpArgs false
namespace Go.Proofs.YtlkolcokjmlmjaaGreat.Wk
open Go.Shelf Go.RowKit Go.Lib Go.Sort
section
variable {β:Type} [Inhabited β]
theorem get_swapN (D:Array β) {x y n:Nat} (h1:x+n≤y) (h2:y+n≤D.size):∀ t,(swapN D x y n)[t]! = D[if x≤t∧t<x+n then y+(t - x) else if y≤t∧t<y+n then x+(t - y) else t]! := by
 induction n with
 | zero=>intro t;rw [if_neg (by omega),if_neg (by omega)];rfl
 | succ n ih =>
  intro t
  have hs:(swapN D x y n).size=D.size:=swapN_size D x y n
  rw [swapN,get_swp _ (by omega) (by omega),ih (by omega) (by omega)]
  congr 1
  by_cases c1:t=x+n
  ·subst c1
   rw [if_pos rfl,if_neg (by omega),if_neg (by omega),if_pos (by omega)]
   omega
  ·rw [if_neg c1]
   by_cases c2:t=y+n
   ·subst c2
    rw [if_pos rfl,if_neg (by omega),if_neg (by omega),if_neg (by omega),if_pos (by omega)]
    omega
   ·rw [if_neg c2]
    by_cases c3:x≤t∧t<x+n
    ·rw [if_pos c3,if_pos (by omega)]
    ·rw [if_neg c3,if_neg (show ¬ (x≤t∧t<x+(n+1)) by omega)]
     by_cases c4:y≤t∧t<y+n
     ·rw [if_pos c4,if_pos (by omega)]
     ·rw [if_neg c4,if_neg (show ¬ (y≤t∧t<y+(n+1)) by omega)]
structure Rot (x m y:Nat) (D E:Array β):Prop where
 size:E.size=D.size
 out:∀ t,t<x∨y≤t→E[t]! = D[t]!
 lo:∀ t,x≤t→t<x+(y - m)→E[t]! = D[t+(m - x)]!
 hi:∀ t,x+(y - m)≤t→t<y→E[t]! = D[t - (y - m)]!
theorem Rot.all {D:Array β} {m i:Nat} (hi:i≤m) (hs:m+i≤D.size):Rot (m - i) m (m+i) D (swapN D (m - i) m i):=by
 have g:=get_swapN D (x:=m - i) (y:=m) (n:=i) (by omega) hs
 refine ⟨swapN_size D _ _ _,fun t ht=>?_,fun t h1 h2=>?_,fun t h1 h2=>?_⟩
 ·rw [g,if_neg (by omega),if_neg (by omega)]
 ·rw [g,if_pos (by omega)]
  congr 1
  omega
 ·rw [g,if_neg (by omega),if_pos (by omega)]
  congr 1
  omega
theorem Rot.left {D E:Array β} {m i j:Nat} (hi:i≤m) (hji:j<i) (hs:m+j≤D.size) (h:Rot (m - (i - j)) m (m+j) (swapN D (m - i) m j) E):Rot (m - i) m (m+j) D E:=by
 have g:=get_swapN D (x:=m - i) (y:=m) (n:=j) (by omega) hs
 refine ⟨h.size.trans (swapN_size D _ _ _),fun t ht=>?_,fun t h1 h2=>?_,fun t h1 h2=>?_⟩
 ·rw [h.out t (by omega),g,if_neg (by omega),if_neg (by omega)]
 ·rw [h.out t (by omega),g,if_pos (by omega)]
  congr 1
  omega
 ·by_cases c:t<m - (i - j)+(m+j - m)
  ·rw [h.lo t (by omega) c,g,if_neg (by omega),if_pos (by omega)]
   congr 1
   omega
  ·rw [h.hi t (by omega) h2,g,if_neg (by omega),if_neg (by omega)]
theorem Rot.right {D E:Array β} {m i j:Nat} (hi:i≤m) (hij:i<j) (hs:m+j≤D.size) (h:Rot (m - i) m (m+(j - i)) (swapN D (m - i) (m+j - i) i) E):Rot (m - i) m (m+j) D E:=by
 have g:=get_swapN D (x:=m - i) (y:=m+j - i) (n:=i) (by omega) (by omega)
 refine ⟨h.size.trans (swapN_size D _ _ _),fun t ht=>?_,fun t h1 h2=>?_,fun t h1 h2=>?_⟩
 ·rw [h.out t (by omega),g,if_neg (by omega),if_neg (by omega)]
 ·by_cases c:t<m - i+(m+(j - i) - m)
  ·rw [h.lo t (by omega) c,g]
   by_cases c2:t+(m - (m - i))<m
   ·omega
   ·rw [if_neg (by omega),if_neg (by omega)]
  ·rw [h.hi t (by omega) (by omega),g,if_pos (by omega)]
   congr 1
   omega
 ·rw [h.out t (by omega),g,if_neg (by omega),if_pos (by omega)]
  congr 1
  omega
variable {tag:β→Nat} {dt:Array β}
theorem TagOk.swapN {D:Array β} (h:TagOk tag dt D) {x y n:Nat} (h1:x+n≤D.size) (h2:y+n≤D.size):TagOk tag dt (swapN D x y n):=by
 induction n with
 | zero=>exact h
 | succ n ih =>
  have hs:(Wk.swapN D x y n).size=D.size:=swapN_size D x y n
  exact (ih (by omega) (by omega)).swp (by omega) (by omega)
end
end Go.Proofs.YtlkolcokjmlmjaaGreat.Wk
set_option linter.unusedVariables false
set_option linter.unusedSimpArgs false
namespace Go.Proofs.YtlkolcokjmlmjaaGreat.Wk
open Go.Shelf Go.RowKit Go.Lib Go.Sort
section
variable {β:Type} [Inhabited β]
structure PreM (tag:β→Nat) (key:β→Int) (dt d:Array β) (a m b:Nat):Prop where
 tags:TagOk tag dt d
 one:SrtT tag key d a m
 two:SrtT tag key d m b
 less:∀ i j,a≤i→i<m→m≤j→j<b→tag d[i]!<tag d[j]!
structure PostM (tag:β→Nat) (key:β→Int) (dt d D:Array β) (a b:Nat):Prop where
 tags:TagOk tag dt D
 win:Within a b d D
 srt:SrtT tag key D a b
variable {tag:β→Nat} {key:β→Int} {dt d D:Array β} {a m b i j c q:Nat}
theorem SrtT.key_le (h:SrtT tag key d a b) (h1:a≤i) (h2:i≤j) (h3:j<b):key d[i]! ≤ key d[j]! := by
 by_cases e:i=j
 ·rw [e];exact Int.le_refl _
 ·exact (h i j h1 (by omega) h3).le
theorem PreM.join (h:PreM tag key dt d a m b) (h1:a≤i) (h2:i<m) (h3:m≤j) (h4:j<b) (hk:key d[i]! ≤ key d[j]!):tlt tag key d[i]! d[j]! := by
 by_cases e:key d[i]! = key d[j]!
 ·exact .inr ⟨e,h.less i j h1 h2 h3 h4⟩
 ·exact .inl (by omega)
structure LookA (key:β→Int) (d D:Array β) (a m b i j:Nat):Prop where
 same:D=d
 lo:∀ t,m≤t→t<i→key d[t]!<key d[a]!
 hi:∀ t,j≤t→t<b→¬ key d[t]!<key d[a]!
theorem LookA.start (key:β→Int) (d:Array β) (a m b:Nat):LookA key d d a m b m b:=⟨rfl,fun t h1 h2=>by omega,fun t h1 h2=>by omega⟩
theorem LookA.up (h:LookA key d D a m b i j) (hp:PreM tag key dt d a m b) {x:Nat} (h1:m≤x) (h2:x<b) (hk:key D[x]!<key D[a]!):LookA key d D a m b (x+1) j:=by
 have e:=h.same
 subst e
 refine ⟨rfl,fun t t1 t2=>?_,h.hi⟩
 have:=hp.two.key_le t1 (show t≤x by omega) h2
 omega
theorem LookA.down (h:LookA key d D a m b i j) (hp:PreM tag key dt d a m b) {x:Nat} (h1:m≤x) (hk:¬ key D[x]!<key D[a]!):LookA key d D a m b i x:=by
 have e:=h.same
 subst e
 refine ⟨rfl,h.lo,fun t t1 t2=>?_⟩
 have:=hp.two.key_le h1 t1 t2
 omega
structure GoesA (tag:β→Nat) (key:β→Int) (dt d D:Array β) (a b q c:Nat):Prop where
 tags:TagOk tag dt D
 size:D.size=d.size
 le:a≤c∧c≤q
 out:∀ t,t<a∨c<t→D[t]! = d[t]!
 ins:∀ t,a≤t→t<c→D[t]! = d[t+1]!
 at_:D[c]! = d[a]!
theorem LookA.goes (h:LookA key d D a m b (q+1) j) (hp:PreM tag key dt d a m b) (haq:a≤q):GoesA tag key dt d D a b q a:=by
 have e:=h.same
 subst e
 exact ⟨hp.tags,rfl,⟨Nat.le_refl _,haq⟩,fun _ _=>rfl,fun t h1 h2=>by omega,rfl⟩
theorem GoesA.step (h:GoesA tag key dt d D a b q c) {y:Nat} (hy:c+1=y) (hq:c<q) (hs:y<D.size):GoesA tag key dt d (swp D c y) a b q y:=by
 have hc:c<D.size:=by omega
 have hle:=h.le
 refine ⟨h.tags.swp hc hs,by rw [size_swp];exact h.size,⟨by omega,by omega⟩,fun t ht=>?_,fun t h1 h2=>?_,?_⟩
 ·rw [get_swp D hc hs,if_neg (by omega),if_neg (by omega)]
  exact h.out t (by omega)
 ·rw [get_swp D hc hs]
  by_cases e:t=c
  ·rw [if_pos e,h.out y (by omega),e,hy]
  ·rw [if_neg e,if_neg (by omega)]
   exact h.ins t h1 (by omega)
 ·rw [get_swp D hc hs,if_neg (by omega),if_pos rfl]
  exact h.at_
theorem GoesA.done (h:GoesA tag key dt d D a b q q) (hp:PreM tag key dt d a m b) (hma:m=a+1) (hqb:q<b) (hlo:∀ t,m≤t→t<q+1→key d[t]!<key d[a]!) (hhi:∀ t,q+1≤t→t<b→¬ key d[t]!<key d[a]!):PostM tag key dt d D a b:=by
 have hle:=h.le
 refine ⟨h.tags,⟨h.size,fun t ht=>h.out t (by omega),fun t h1 h2=>?_⟩,fun x y h1 h2 h3=>?_⟩
 ·by_cases c1:t<q
  ·exact ⟨t+1,by omega,by omega,h.ins t h1 c1⟩
  ·by_cases c2:t=q
   ·exact ⟨a,by omega,by omega,by rw [c2];exact h.at_⟩
   ·exact ⟨t,h1,h2,h.out t (by omega)⟩
 ·by_cases c1:y<q
  ·rw [h.ins x h1 (by omega),h.ins y (by omega) c1]
   exact hp.two _ _ (by omega) (by omega) (by omega)
  ·by_cases c2:y=q
   ·rw [c2,h.at_,h.ins x h1 (by omega)]
    exact .inl (hlo _ (by omega) (by omega))
   ·rw [h.out y (by omega)]
    by_cases c3:x<q
    ·rw [h.ins x h1 c3]
     exact hp.two _ _ (by omega) (by omega) h3
    ·by_cases c4:x=q
     ·rw [c4,h.at_]
      exact hp.join (Nat.le_refl _) (by omega) (by omega) h3 (by have:=hhi y (by omega) h3;omega)
     ·rw [h.out x (by omega)]
      exact hp.two _ _ (by omega) h2 h3
structure LookB (key:β→Int) (d D:Array β) (a m i j:Nat):Prop where
 same:D=d
 lo:∀ t,a≤t→t<i→¬ key d[m]!<key d[t]!
 hi:∀ t,j≤t→t<m→key d[m]!<key d[t]!
theorem LookB.start (key:β→Int) (d:Array β) (a m:Nat):LookB key d d a m a m:=⟨rfl,fun t h1 h2=>by omega,fun t h1 h2=>by omega⟩
theorem LookB.up (h:LookB key d D a m i j) (hp:PreM tag key dt d a m b) {x:Nat} (h2:x<m) (hk:¬ key D[m]!<key D[x]!):LookB key d D a m (x+1) j:=by
 have e:=h.same
 subst e
 refine ⟨rfl,fun t t1 t2=>?_,h.hi⟩
 have:=hp.one.key_le t1 (show t≤x by omega) h2
 omega
theorem LookB.down (h:LookB key d D a m i j) (hp:PreM tag key dt d a m b) {x:Nat} (h1:a≤x) (hk:key D[m]!<key D[x]!):LookB key d D a m i x:=by
 have e:=h.same
 subst e
 refine ⟨rfl,h.lo,fun t t1 t2=>?_⟩
 have:=hp.one.key_le h1 t1 t2
 omega
structure GoesB (tag:β→Nat) (dt d D:Array β) (m q c:Nat):Prop where
 tags:TagOk tag dt D
 size:D.size=d.size
 le:q≤c∧c≤m
 out:∀ t,t<c∨m<t→D[t]! = d[t]!
 ins:∀ t,c<t→t≤m→D[t]! = d[t - 1]!
 at_:D[c]! = d[m]!
theorem LookB.goes (h:LookB key d D a m q j) (hp:PreM tag key dt d a m b) (hq:q≤m):GoesB tag dt d D m q m:=by
 have e:=h.same
 subst e
 exact ⟨hp.tags,rfl,⟨hq,Nat.le_refl _⟩,fun _ _=>rfl,fun t h1 h2=>by omega,rfl⟩
theorem GoesB.step (h:GoesB tag dt d D m q c) {y:Nat} (hy:c - 1=y) (hq:q<c) (hs:c<D.size):GoesB tag dt d (swp D c y) m q y:=by
 have hc:y<D.size:=by omega
 have hle:=h.le
 refine ⟨h.tags.swp hs hc,by rw [size_swp];exact h.size,⟨by omega,by omega⟩,fun t ht=>?_,fun t h1 h2=>?_,?_⟩
 ·rw [get_swp D hs hc,if_neg (by omega),if_neg (by omega)]
  exact h.out t (by omega)
 ·rw [get_swp D hs hc]
  by_cases e:t=c
  ·rw [if_pos e,h.out y (by omega),e,hy]
  ·rw [if_neg e,if_neg (by omega)]
   exact h.ins t (by omega) h2
 ·rw [get_swp D hs hc,if_neg (by omega),if_pos rfl]
  exact h.at_
theorem GoesB.done (h:GoesB tag dt d D m q q) (hp:PreM tag key dt d a m b) (hmb:b=m+1) (haq:a≤q) (ham:a<m) (hlo:∀ t,a≤t→t<q→¬ key d[m]!<key d[t]!) (hhi:∀ t,q≤t→t<m→key d[m]!<key d[t]!):PostM tag key dt d D a b:=by
 have hle:=h.le
 refine ⟨h.tags,⟨h.size,fun t ht=>h.out t (by omega),fun t h1 h2=>?_⟩,fun x y h1 h2 h3=>?_⟩
 ·by_cases c1:t<q
  ·exact ⟨t,h1,h2,h.out t (by omega)⟩
  ·by_cases c2:t=q
   ·exact ⟨m,by omega,by omega,by rw [c2];exact h.at_⟩
   ·exact ⟨t - 1,by omega,by omega,h.ins t (by omega) (by omega)⟩
 ·by_cases c1:y<q
  ·rw [h.out x (by omega),h.out y (by omega)]
   exact hp.one _ _ h1 h2 (by omega)
  ·by_cases c2:y=q
   ·rw [c2,h.at_,h.out x (by omega)]
    exact hp.join h1 (by omega) (Nat.le_refl _) (by omega) (by have:=hlo x h1 (by omega);omega)
   ·rw [h.ins y (by omega) (by omega)]
    by_cases c3:x<q
    ·rw [h.out x (by omega)]
     exact hp.one _ _ h1 (by omega) (by omega)
    ·by_cases c4:x=q
     ·rw [c4,h.at_]
      exact .inl (hhi _ (by omega) (by omega))
     ·rw [h.ins x (by omega) (by omega)]
      exact hp.one _ _ (by omega) (by omega) (by omega)
end
end Go.Proofs.YtlkolcokjmlmjaaGreat.Wk
set_option linter.unusedVariables false
set_option linter.unusedSimpArgs false
namespace Go.Proofs.YtlkolcokjmlmjaaGreat.Wk
open Go.Shelf Go.RowKit Go.Lib Go.Sort
section
variable {β:Type} [Inhabited β] {tag:β→Nat} {key:β→Int} {dt d D E:Array β} {a m b i j p lo hi st mi en:Nat}
structure LookC (key:β→Int) (d D:Array β) (p lo hi i j:Nat):Prop where
 same:D=d
 lo:∀ t,lo≤t→t<i→¬ key d[p - t]!<key d[t]!
 hi:∀ t,j≤t→t<hi→key d[p - t]!<key d[t]!
structure Span (a m b p lo hi:Nat):Prop where
 alo:a≤lo
 him:hi≤m
 up:∀ t,t<hi→m≤p - t
 dn:∀ t,lo≤t→p - t<b
 mono:∀ t u,t≤u→u<hi→p - u≤p - t
theorem LookC.start (key:β→Int) (d:Array β) (p lo hi:Nat):LookC key d d p lo hi lo hi:=⟨rfl,fun t h1 h2=>by omega,fun t h1 h2=>by omega⟩
theorem LookC.up (h:LookC key d D p lo hi i j) (hp:PreM tag key dt d a m b) (hs:Span a m b p lo hi) {x:Nat} (h1:lo≤x) (h2:x<hi) (hk:¬ key D[p - x]!<key D[x]!):LookC key d D p lo hi (x+1) j:=by
 have e:=h.same
 subst e
 refine ⟨rfl,fun t t1 t2=>?_,h.hi⟩
 have g1:=hp.one.key_le (show a≤t from Nat.le_trans hs.alo t1) (show t≤x by omega) (show x<m from Nat.lt_of_lt_of_le h2 hs.him)
 have g2:=hp.two.key_le (hs.up x h2) (hs.mono t x (by omega) h2) (hs.dn t t1)
 omega
theorem LookC.down (h:LookC key d D p lo hi i j) (hp:PreM tag key dt d a m b) (hs:Span a m b p lo hi) {x:Nat} (h1:lo≤x) (hk:key D[p - x]!<key D[x]!):LookC key d D p lo hi i x:=by
 have e:=h.same
 subst e
 refine ⟨rfl,h.lo,fun t t1 t2=>?_⟩
 have g1:=hp.one.key_le (show a≤x from Nat.le_trans hs.alo h1) t1 (show t<m from Nat.lt_of_lt_of_le t2 hs.him)
 have g2:=hp.two.key_le (hs.up t t2) (hs.mono x t t1 t2) (hs.dn x h1)
 omega
structure Cut (tag:β→Nat) (key:β→Int) (d:Array β) (a m b st mi en:Nat):Prop where
 le:a≤st∧st≤m∧m≤en∧en≤b∧mi+m=st+en
 far:∀ t u,a≤t→t<st→en≤u→u<b→tlt tag key d[t]! d[u]!
 near:∀ t u,st≤t→t<m→m≤u→u<en→tlt tag key d[u]! d[t]!
theorem LookC.cut (h:LookC key d D p lo hi st st) (hp:PreM tag key dt d a m b) (hs:Span a m b p lo hi) (hlo:lo≤st) (hhi:st≤hi) (hen:st+en=p+1) (hle:a≤st∧st≤m∧m≤en∧en≤b∧mi+m=st+en) (h1:lo=a∨lo=st→lo=a∨en=b) (h2:hi=st→st=m∨en=m):Cut tag key d a m b st mi en:=by
 refine ⟨hle,fun t u t1 t2 u1 u2=>?_,fun t u t1 t2 u1 u2=>?_⟩
 ·have hlt : lo < st := by
   by_cases e:lo=st
   ·rcases h1 (.inr e) with h3 | h3 <;> omega
   ·omega
  have g1:=hp.one.key_le t1 (show t≤st - 1 by omega) (show st - 1<m by omega)
  have g2:=hp.two.key_le (show m≤en by omega) u1 u2
  have g3:=h.lo (st - 1) (by omega) (by omega)
  rw [show p - (st - 1)=en by omega] at g3
  exact hp.join t1 (by omega) (by omega) u2 (by omega)
 ·have hlt : st < hi := by
   by_cases e:hi=st
   ·rcases h2 e with h3 | h3 <;> omega
   ·omega
  have g1:=hp.one.key_le (show a≤st by omega) t1 t2
  have g2:=hp.two.key_le u1 (show u≤en - 1 by omega) (show en - 1<b by omega)
  have g3:=h.hi st (Nat.le_refl _) hlt
  rw [show p - st=en - 1 by omega] at g3
  exact .inl (by omega)
theorem Rot.same {x m y:Nat} (d:Array β) (h:x=m∨m=y) (h1:x≤m) (h2:m≤y):Rot x m y d d:=by
 refine ⟨rfl,fun _ _=>rfl,fun t t1 t2=>?_,fun t t1 t2=>?_⟩
 ·congr 1;omega
 ·congr 1;omega
structure Half (tag:β→Nat) (key:β→Int) (dt d E:Array β) (a b st mi en:Nat):Prop where
 win:Within a b d E
 one:PreM tag key dt E a st mi
 two:PreM tag key dt E mi en b
 far:∀ t u,a≤t→t<mi→mi≤u→u<b→tlt tag key E[t]! E[u]!
theorem Cut.half (h:Cut tag key d a m b st mi en) (hp:PreM tag key dt d a m b) (ht:TagOk tag dt E) (hr:Rot st m en d E):Half tag key dt d E a b st mi en:=by
 obtain ⟨l1,l2,l3,l4,l5⟩:=h.le
 have e1:∀ t,t<st→E[t]! = d[t]! := fun t h=>hr.out t (.inl h)
 have e2:∀ t,st≤t→t<mi→E[t]! = d[t+(m - st)]! := fun t h1 h2=>hr.lo t h1 (by omega)
 have e3:∀ t,mi≤t→t<en→E[t]! = d[t - (en - m)]! := fun t h1 h2=>hr.hi t (by omega) h2
 have e4:∀ t,en≤t→E[t]! = d[t]! := fun t h=>hr.out t (.inr h)
 refine ⟨⟨hr.size,fun t ht=>?_,fun t h1 h2=>?_⟩,⟨ht,fun x y h1 h2 h3=>?_,fun x y h1 h2 h3=>?_,fun x y h1 h2 h3 h4=>?_⟩,⟨ht,fun x y h1 h2 h3=>?_,fun x y h1 h2 h3=>?_,fun x y h1 h2 h3 h4=>?_⟩,fun x y h1 h2 h3 h4=>?_⟩
 ·exact hr.out t (by omega)
 ·by_cases c1:t<st
  ·exact ⟨t,h1,h2,e1 t c1⟩
  ·by_cases c2:t<mi
   ·exact ⟨_,by omega,by omega,e2 t (by omega) c2⟩
   ·by_cases c3:t<en
    ·exact ⟨_,by omega,by omega,e3 t (by omega) c3⟩
    ·exact ⟨t,h1,h2,e4 t (by omega)⟩
 ·rw [e1 x (by omega),e1 y h3];exact hp.one _ _ h1 h2 (by omega)
 ·rw [e2 x h1 (by omega),e2 y (by omega) h3];exact hp.two _ _ (by omega) (by omega) (by omega)
 ·rw [e1 x h2,e2 y h3 h4];exact hp.less _ _ h1 (by omega) (by omega) (by omega)
 ·rw [e3 x h1 (by omega),e3 y (by omega) h3];exact hp.one _ _ (by omega) (by omega) (by omega)
 ·rw [e4 x h1,e4 y (by omega)];exact hp.two _ _ (by omega) h2 h3
 ·rw [e3 x h1 h2,e4 y h3];exact hp.less _ _ (by omega) (by omega) (by omega) h4
 ·by_cases c1:x<st
  ·rw [e1 x c1]
   by_cases c2:y<en
   ·rw [e3 y h3 c2];exact hp.one _ _ h1 (by omega) (by omega)
   ·rw [e4 y (by omega)];exact h.far _ _ h1 c1 (by omega) h4
  ·rw [e2 x (by omega) h2]
   by_cases c2:y<en
   ·rw [e3 y h3 c2];exact h.near _ _ (by omega) (by omega) (by omega) (by omega)
   ·rw [e4 y (by omega)];exact hp.two _ _ (by omega) (by omega) h4
structure Half1 (tag:β→Nat) (key:β→Int) (dt d E:Array β) (a b mi en:Nat):Prop where
 win:Within a b d E
 srt:SrtT tag key E a mi
 two:PreM tag key dt E mi en b
 far:∀ t u,a≤t→t<mi→mi≤u→u<b→tlt tag key E[t]! E[u]!
theorem Half.merged (h:Half tag key dt d E a b st mi en) {E1:Array β} (hp:PostM tag key dt E E1 a mi) (hle:a≤mi∧mi≤en∧en≤b):Half1 tag key dt d E1 a b mi en:=by
 have ho:∀ t,mi≤t→E1[t]! = E[t]! := fun t ht=>hp.win.out t (.inr ht)
 refine ⟨h.win.trans (hp.win.more (Nat.le_refl _) (by omega)),hp.srt,⟨hp.tags,fun x y h1 h2 h3=>?_,fun x y h1 h2 h3=>?_,fun x y h1 h2 h3 h4=>?_⟩,fun x y h1 h2 h3 h4=>?_⟩
 ·rw [ho x h1,ho y (by omega)];exact h.two.one _ _ h1 h2 h3
 ·rw [ho x (by omega),ho y (by omega)];exact h.two.two _ _ h1 h2 h3
 ·rw [ho x h1,ho y (by omega)];exact h.two.less _ _ h1 h2 h3 h4
 ·obtain ⟨z,z1,z2,z3⟩:=hp.win.ins x h1 h2
  rw [z3,ho y h3]
  exact h.far _ _ z1 z2 h3 h4
theorem Half.left (h:Half tag key dt d E a b st mi en) (hno:¬ (a<st∧st<mi)) (h1:a≤st) (h2:st≤mi):Half1 tag key dt d E a b mi en:=by
 refine ⟨h.win,?_,h.two,h.far⟩
 by_cases e:a=st
 ·rw [e];exact h.one.two
 ·have:st=mi:=by omega
  rw [← this];exact h.one.one
theorem Half1.join (h:Half1 tag key dt d E a b mi en) {E2:Array β} (hp:PostM tag key dt E E2 mi b) (hle:a≤mi):PostM tag key dt d E2 a b:=by
 have ho:∀ t,t<mi→E2[t]! = E[t]! := fun t ht=>hp.win.out t (.inl ht)
 refine ⟨hp.tags,h.win.trans (hp.win.more hle (Nat.le_refl _)),fun x y h1 h2 h3=>?_⟩
 by_cases c1:y<mi
 ·rw [ho x (by omega),ho y c1];exact h.srt _ _ h1 h2 c1
 ·by_cases c2:x<mi
  ·obtain ⟨z,z1,z2,z3⟩:=hp.win.ins y (by omega) h3
   rw [ho x c2,z3]
   exact h.far _ _ h1 c2 z1 z2
  ·exact hp.srt _ _ (by omega) h2 h3
theorem Half1.right (h:Half1 tag key dt d E a b mi en) (hno:¬ (mi<en∧en<b)) (h1:mi≤en) (h2:en≤b) (hle:a≤mi):PostM tag key dt d E a b:=by
 have hs:SrtT tag key E mi b:=by
  by_cases e:mi=en
  ·rw [e];exact h.two.two
  ·have:en=b:=by omega
   rw [← this];exact h.two.one
 exact h.join ⟨h.two.tags,Within.refl _ _ _,hs⟩ hle
end
end Go.Proofs.YtlkolcokjmlmjaaGreat.Wk
set_option linter.unusedVariables false
set_option linter.unusedSimpArgs false
namespace Go.Proofs.YtlkolcokjmlmjaaGreat.Wk
open Go.Shelf Go.RowKit Go.Lib Go.Sort
section
variable {P:Program} {α:Type} [Inhabited α] {k:Nat}
theorem swapRange_x (T : TypesAs P k) (FG : P.funcs[189]? = some Tryz.f189) (enc : α → List Value) (fv : Value) (blk off N cap a b n : Nat) (d0 d : Array α) (w0 w : World)
  (R:RowK enc k w0 blk off d0) (hs:d.size=d0.size) (S:SWK enc k w0 blk off d w) (hN:d.size=N) (ha:a+n≤N) (hb:b+n≤N) (hsz:N<4611686018427387904) :
  Calls P 189 #[.slice (some ⟨blk,off,none⟩) N cap,.int .i64 a,.int .i64 b,.int .i64 n,fv] w fun e w'=>e=.returned (.tuple #[])∧SWK enc k w0 blk off (swapN d a b n) w':=by
 subst hN
 exact swapRange_o T FG enc fv blk off cap a b n d0 d w0 w R hs S ha hb hsz
set_option maxHeartbeats 4000000 in
set_option maxRecDepth 1000000 in
theorem rotate_x (T : TypesAs P k) (FS : P.funcs[189]? = some Tryz.f189) (FG : P.funcs[173]? = some Tryz.f173) (enc : α → List Value) (fv : Value) (blk off N cap a m b : Nat) (d0 dt d : Array α) (w0 w : World) (tag : α → Nat) (htg : TagOk tag dt d)
  (R:RowK enc k w0 blk off d0) (hs:d.size=d0.size) (S:SWK enc k w0 blk off d w) (hN:d.size=N) (ham:a<m) (hmb:m<b) (hb:b≤N) (hsz:N<4611686018427387904) :
  Calls P 173 #[.slice (some ⟨blk,off,none⟩) N cap,.int .i64 a,.int .i64 m,.int .i64 b,fv] w fun e w'=>e=.returned (.tuple #[])∧∃ d',(TagOk tag dt d'∧Rot a m b d d')∧SWK enc k w0 blk off d' w':=by
 have T0:Aside (TypesAs P k):=T
 have mixed:=T.mixed;have t3:=T.t3;have a3:=T.a3;have z3:=T.z3;have t4:=T.t4;have a4:=T.a4;have z4:=T.z4;have t33:=T.t33;have a33:=T.a33;have z33:=T.z33;have aE:=T.aE;have zE:=T.zE
 clear T
 have FS0:Aside (P.funcs[189]? = some Tryz.f189):=FS
 have eS:∀ args w,(callFunc 189 args).run P w=.ok (.enter 189 args) w:=enters_of FS (by kernel_rfl) rfl
 have S0:Aside (SWK enc k w0 blk off d w):=S
 have R0:Aside (RowK enc k w0 blk off d0):=R
 have hN0:Aside (d.size=N):=hN
 have hs0:Aside (d.size=d0.size):=hs
 have HT:Aside (TagOk tag dt d):=htg
 clear S FS R hN hs htg
 obtain ⟨i0,hi0⟩:∃ i,m - a=i:=⟨_,rfl⟩
 obtain ⟨j0,hj0⟩:∃ j,b - m=j:=⟨_,rfl⟩
 have hi1:(m:Int) - (a:Int)=(i0:Int):=by omega
 have hj1:(b:Int) - (m:Int)=(j0:Int):=by omega
 have wi1:IntKind.i64.wrap (i0:Int)=(i0:Int):=by rw [IntKind.wrap_i64];omega
 have wj1:IntKind.i64.wrap (j0:Int)=(j0:Int):=by rw [IntKind.wrap_i64];omega
 go_enter FG,Tryz.ntmps173
 go_wp2
 go_loopg [10,11] (i0+j0) (fun kx s t wr=>∃ (i j:Nat) (D:Array α),s=.int .i64 i∧t=.int .i64 j∧0<i∧0<j∧i≤m∧m+j≤N∧i+j≤kx∧Aside ((TagOk tag dt D∧D.size=N∧∀ E,Rot (m - i) m (m+j) D E→Rot a m b d E)∧SWK enc k w0 blk off D wr))
 case atStart=>exact ⟨i0,j0,d,rfl,rfl,by omega,by omega,by omega,by omega,by omega,⟨HT.out,hN0.out,fun E h=>(by
  rw [show m - i0=a by omega,show m+j0=b by omega] at h
  exact h)⟩,S0.out⟩
 case round =>
  clear S0
  obtain ⟨i,j,D,rfl,rfl,hip,hjp,him,hjn,hkx,S1⟩:=hrel
  have hDs:D.size=N:=S1.out.1.2.1
  obtain ⟨x,hx⟩:∃ x,m - i=x:=⟨_,rfl⟩
  have hxi:(m:Int) - (i:Int)=(x:Int):=by omega
  have wx:IntKind.i64.wrap (x:Int)=(x:Int):=by rw [IntKind.wrap_i64];omega
  by_cases heq:i=j
  ·subst heq
   go_wp2_with fail
   refine (swapRange_x T0.out FS0.out enc fv blk off N cap x m i d0 D w0 wr R0.out (by rw [hDs,← hN0.out];exact hs0.out) S1.out.2 hDs (by omega) (by omega) hsz).mono ?_
   rintro e w1 ⟨rfl,hS1⟩
   have HS1:Aside (SWK enc k w0 blk off (swapN D x m i) w1):=hS1
   clear hS1
   go_wp2
   go_end0
   refine ⟨rfl,_,⟨S1.out.1.1.swapN (by omega) (by omega),S1.out.1.2.2 _ ?_⟩,HS1.out⟩
   rw [← hx]
   exact Rot.all (by omega) (by omega)
  ·have e1:((i:Int)==(j:Int))=false:=beq_eq_false_iff_ne.2 (by omega)
   have e2:((i:Int) != (j:Int))=true:=bne_iff_ne.2 (by omega)
   by_cases hgt:j<i
   ·have g1:(j:Int)<(i:Int):=by omega
    obtain ⟨y,hy⟩:∃ y,i - j=y:=⟨_,rfl⟩
    have hyi:(i:Int) - (j:Int)=(y:Int):=by omega
    have wy:IntKind.i64.wrap (y:Int)=(y:Int):=by rw [IntKind.wrap_i64];omega
    go_wp2_with fail
    refine (swapRange_x T0.out FS0.out enc fv blk off N cap x m j d0 D w0 wr R0.out (by rw [hDs,← hN0.out];exact hs0.out) S1.out.2 hDs (by omega) (by omega) hsz).mono ?_
    rintro e w1 ⟨rfl,hS1⟩
    have hR1:∀ E,Rot (m - y) m (m+j) (swapN D x m j) E→Rot a m b d E:=fun E h=>S1.out.1.2.2 E (Rot.left (by omega) hgt (by omega) (by rw [← hx,← hy] at h;exact h))
    have S2:Aside ((TagOk tag dt (swapN D x m j)∧(swapN D x m j).size=N∧∀ E,Rot (m - y) m (m+j) (swapN D x m j) E→Rot a m b d E)∧SWK enc k w0 blk off (swapN D x m j) w1):=⟨⟨S1.out.1.1.swapN (by omega) (by omega),by rw [swapN_size];exact hDs,hR1⟩,hS1⟩
    clear hR1 hS1
    go_wp2
    go_roundg (y+j)
    case measure=>omega
    case rel=>exact ⟨y,j,_,by simp,by simp,by omega,hjp,by omega,hjn,Nat.le_refl _,S2⟩
   ·have g1:¬ (j:Int)<(i:Int):=by omega
    obtain ⟨y,hy⟩:∃ y,j - i=y:=⟨_,rfl⟩
    have hyi:(j:Int) - (i:Int)=(y:Int):=by omega
    have wy:IntKind.i64.wrap (y:Int)=(y:Int):=by rw [IntKind.wrap_i64];omega
    obtain ⟨u,hu⟩:∃ u,m+j=u:=⟨_,rfl⟩
    have hui:(m:Int)+(j:Int)=(u:Int):=by omega
    have wu:IntKind.i64.wrap (u:Int)=(u:Int):=by rw [IntKind.wrap_i64];omega
    obtain ⟨v,hv⟩:∃ v,u - i=v:=⟨_,rfl⟩
    have hvi:(u:Int) - (i:Int)=(v:Int):=by omega
    have wv:IntKind.i64.wrap (v:Int)=(v:Int):=by rw [IntKind.wrap_i64];omega
    go_wp2_with fail
    refine (swapRange_x T0.out FS0.out enc fv blk off N cap x v i d0 D w0 wr R0.out (by rw [hDs,← hN0.out];exact hs0.out) S1.out.2 hDs (by omega) (by omega) hsz).mono ?_
    rintro e w1 ⟨rfl,hS1⟩
    have hR1:∀ E,Rot (m - i) m (m+y) (swapN D x v i) E→Rot a m b d E:=fun E h=>S1.out.1.2.2 E (Rot.right (by omega) (by omega) (by omega) (by rw [← hx,← hv,← hu,← hy] at h;exact h))
    have S2:Aside ((TagOk tag dt (swapN D x v i)∧(swapN D x v i).size=N∧∀ E,Rot (m - i) m (m+y) (swapN D x v i) E→Rot a m b d E)∧SWK enc k w0 blk off (swapN D x v i) w1):=⟨⟨S1.out.1.1.swapN (by omega) (by omega),by rw [swapN_size];exact hDs,hR1⟩,hS1⟩
    clear hR1 hS1
    go_wp2
    go_roundg (i+y)
    case measure=>omega
    case rel=>exact ⟨i,y,_,by simp,by simp,hip,by omega,him,by omega,Nat.le_refl _,S2⟩
end
end Go.Proofs.YtlkolcokjmlmjaaGreat.Wk
