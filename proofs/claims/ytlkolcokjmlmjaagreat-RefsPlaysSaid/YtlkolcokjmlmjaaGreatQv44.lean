/- Texts put together: VGx7. -/
import Derived.Test.YtlkolcokjmlmjaaGreatQv43
import Derived.Test.YtlkolcokjmlmjaaGreatQv40
set_option linter.unusedVariables false
set_option linter.unusedSimpArgs false
namespace Go.Proofs.YtlkolcokjmlmjaaGreat.Wk
open Go.Shelf Go.RowKit Go.Lib Go.Sort
theorem Aside.mk' {p:Prop} (h:p):Aside p:=h
def StepM {α:Type} [Inhabited α] (tag:α→Nat) (key:α→Int) (dt:Array α) (enc:α→List Value) (k:Nat) (w0:World) (blk off:Nat) (d:Array α) (a b:Nat) (e:Ending) (w':World):Prop :=
 e=.returned (.tuple #[])∧∃ d',PostM tag key dt d d' a b∧SWK enc k w0 blk off d' w'
section
variable {P:Program} {α:Type} [Inhabited α] {k:Nat}
set_option maxHeartbeats 8000000 in
set_option maxRecDepth 1000000 in
theorem symMerge_x (T : TypesAs P k) (FR : P.funcs[173]? = some Tryz.f173) (FS : P.funcs[189]? = some Tryz.f189) (FG : P.funcs[163]? = some Tryz.f163) (enc : α → List Value) (g : Nat) (cb : Array Value) (cf : α → α → Int) (blk off N cap : Nat) (d0 : Array α) (w0 : World) (dt : Array α) (tag : α → Nat) (key : α → Int) (hcf : ∀ x y, cf x y < 0 ↔ key x < key y)
  (eg:∀ args w,(callFunc g args).run P w=.ok (.enter g args) w) (hcmp:CmpLays P g cb enc k cf blk off N w0)
  (R:RowK enc k w0 blk off d0) (hN0:d0.size=N) (hsz:N<4611686018427387904):∀ (L a m b:Nat) (d:Array α) (w:World),b - a≤L→d.size=N→PreM tag key dt d a m b→SWK enc k w0 blk off d w→a<m→m<b→b≤N →
  Calls P 163 #[.slice (some ⟨blk,off,none⟩) N cap,.int .i64 a,.int .i64 m,.int .i64 b,.func (.func g) #[] cb] w (StepM tag key dt enc k w0 blk off d a b):=by
 have T0:Aside (TypesAs P k):=T
 have mixed:=T.mixed;have t3:=T.t3;have a3:=T.a3;have z3:=T.z3;have t4:=T.t4;have a4:=T.a4;have z4:=T.z4;have t33:=T.t33;have a33:=T.a33;have z33:=T.z33;have aE:=T.aE;have zE:=T.zE;have tU:=T.tU;have aU:=T.aU;have zU:=T.zU
 clear T
 have eR:∀ args w,(callFunc 173 args).run P w=.ok (.enter 173 args) w:=enters_of FR (by kernel_rfl) rfl
 have eG:∀ args w,(callFunc 163 args).run P w=.ok (.enter 163 args) w:=enters_of FG (by kernel_rfl) rfl
 have FS0:Aside (P.funcs[189]? = some Tryz.f189):=FS
 have FR0:Aside (P.funcs[173]? = some Tryz.f173):=FR
 have R0:Aside (RowK enc k w0 blk off d0):=R
 have C0:Aside (CmpLays P g cb enc k cf blk off N w0):=hcmp
 have HCF:Aside (∀ x y,cf x y<0↔key x<key y):=hcf
 clear FS FR R hcmp hcf
 intro L
 induction L with
 | zero=>intro a m b d w h1 _ _ _ h2 h3;omega
 | succ L ih =>
  intro a m b d w hL hdN hPR hS ham hmb hb
  have HP:Aside (PreM tag key dt d a m b):=hPR
  have S0:Aside (SWK enc k w0 blk off d w):=hS
  have IH:Aside (∀ (a m b:Nat) (d:Array α) (w:World),b - a≤L→d.size=N→PreM tag key dt d a m b→SWK enc k w0 blk off d w→a<m→m<b→b≤N →
   Calls P 163 #[.slice (some ⟨blk,off,none⟩) N cap,.int .i64 a,.int .i64 m,.int .i64 b,.func (.func g) #[] cb] w (StepM tag key dt enc k w0 blk off d a b)):=ih
  clear hS ih hPR
  by_cases hA:m - a=1
  ·have hma:(m:Int) - (a:Int)=1:=by omega
   go_enter FG,Tryz.ntmps163
   go_wp2
   go_loopg [10,11] (b - m) (fun kx s t wr=>∃ (i j:Nat) (D:Array α),s=.int .i64 i∧t=.int .i64 j∧m≤i∧i≤j∧j≤b∧j - i≤kx∧Aside (LookA key d D a m b i j∧SWK enc k w0 blk off D wr))
   case atStart=>exact ⟨m,b,d,rfl,rfl,Nat.le_refl _,by omega,Nat.le_refl _,Nat.le_refl _,LookA.start key d a m b,S0.out⟩
   case round =>
    clear S0
    obtain ⟨i,j,D,rfl,rfl,him,hij,hjb,hkx,S1⟩:=hrel
    have hDs:D.size=N:=by rw [S1.out.1.same];exact hdN
    by_cases hlt:i<j
    ·have hlt':(i:Int)<(j:Int):=by omega
     obtain ⟨s,hs⟩:∃ s,i+j=s:=⟨_,rfl⟩
     have hsi:(i:Int)+(j:Int)=(s:Int):=by omega
     have ws:IntKind.i64.wrap (s:Int)=(s:Int):=by rw [IntKind.wrap_i64];omega
     obtain ⟨h,hh⟩:∃ h,s / 2=h:=⟨_,rfl⟩
     have hsh:(s:Int) / 2=(h:Int):=by omega
     have bh:(h:Int)<(N:Int):=by omega
     have ba:(a:Int)<(N:Int):=by omega
     have wh:IntKind.i64.wrap (h:Int)=(h:Int):=by rw [IntKind.wrap_i64];omega
     have wh1:IntKind.i64.wrap ((h:Int)+1)=((h+1:Nat):Int):=by rw [IntKind.wrap_i64];omega
     obtain ⟨xp,hxp⟩:∃ x,D[h]! = x:=⟨_,rfl⟩
     obtain ⟨xq,hxq⟩:∃ x,D[a]! = x:=⟨_,rfl⟩
     have hDs0:D.size=d0.size:=hDs.trans hN0.symm
     have lp:∀ n' os',Sem.run P (loadCellsFrom ⟨blk,off+h*k,none⟩ 0 k #[]) (grow (wr.drewN n') os')=.ok (enc xp).toArray (grow (wr.drewN n') os'):=fun n' os'=>by rw [← hxp];exact S1.out.2.ld R0.out hDs0 P h (by omega) n' os'
     have lq:∀ n' os',Sem.run P (loadCellsFrom ⟨blk,off+a*k,none⟩ 0 k #[]) (grow (wr.drewN n') os')=.ok (enc xq).toArray (grow (wr.drewN n') os'):=fun n' os'=>by rw [← hxq];exact S1.out.2.ld R0.out hDs0 P a (by omega) n' os'
     have hcg:=fun n' os'=>S1.out.2.cmp C0.out hDs xp xq n' os'
     have SG:Aside (∀ n' os',SWK enc k w0 blk off D (grow (wr.drewN n') os')):=fun n' os'=>S1.out.2.grown n' os'
     have HXP:=Aside.mk' hxp
     have HXQ:=Aside.mk' hxq
     clear hxp hxq hDs0
     by_cases hlv:cf xp xq<0
     ·have HK:key D[h]!<key D[a]! := by rw [HXP.out,HXQ.out];exact (HCF.out xp xq).1 hlv
      have HK1:=Aside.mk' HK
      clear HK
      go_wp2_with fail
      go_quiet_grown (first | (go_at_fn g;refine Calls.grown_of (hcg _ _)))
      go_wp2
      go_roundg (j - (h+1))
      case measure=>omega
      case rel=>exact ⟨h+1,j,D,by simp,by simp,by omega,by omega,hjb,Nat.le_refl _,S1.out.1.up HP.out (by omega) (by omega) HK1.out,SG.out _ _⟩
     ·have HK:¬ key D[h]!<key D[a]! := by rw [HXP.out,HXQ.out];exact fun e=>hlv ((HCF.out xp xq).2 e)
      have HK1:=Aside.mk' HK
      clear HK
      go_wp2_with fail
      go_quiet_grown (first | (go_at_fn g;refine Calls.grown_of (hcg _ _)))
      go_wp2
      go_roundg (h - i)
      case measure=>omega
      case rel=>exact ⟨i,h,D,by simp,by simp,him,by omega,by omega,Nat.le_refl _,S1.out.1.down HP.out (by omega) (by have h9:=HK1.out;omega),SG.out _ _⟩
    ·have hlt':¬ (i:Int)<(j:Int):=by omega
     obtain ⟨q,hq⟩:∃ q,i=q+1:=⟨i - 1,by omega⟩
     have hqi:(i:Int) - 1=(q:Int):=by omega
     have wq:IntKind.i64.wrap (q:Int)=(q:Int):=by rw [IntKind.wrap_i64];omega
     have hqN:q<N:=by omega
     have HLK:=Aside.mk' (show (∀ t,m≤t→t<q+1→key d[t]!<key d[a]!)∧∀ t,q+1≤t→t<b→¬ key d[t]!<key d[a]! from ⟨fun t h1 h2=>S1.out.1.lo t h1 (by omega),fun t h1 h2=>S1.out.1.hi t (by omega) h2⟩)
     go_wp2
     go_loopg [13] (q - a) (fun kx s wr=>∃ (c:Nat) (D:Array α),s=.int .i64 c∧a≤c∧q - c≤kx∧Aside (GoesA tag key dt d D a b q c∧SWK enc k w0 blk off D wr))
     case atStart=>exact ⟨a,D,rfl,Nat.le_refl _,Nat.le_refl _,(by
      have h:=S1.out.1
      rw [hq] at h
      exact h.goes HP.out (by omega)),S1.out.2⟩
     case round =>
      clear S1 hDs
      obtain ⟨c,D,rfl,hac,hkx2,S1⟩:=hrel
      have hDs:D.size=N:=S1.out.1.size.trans hdN
      by_cases hcq:c<q
      ·have hcq':(c:Int)<(q:Int):=by omega
       obtain ⟨y,hy⟩:∃ y,c+1=y:=⟨_,rfl⟩
       have hyi:(c:Int)+1=(y:Int):=by omega
       have hxD:c<D.size:=by omega
       have hyD:y<D.size:=by omega
       have ea44:((c:Int)).toNat=c:=by omega
       have pa44:(0:Int)≤(c:Int):=by omega
       have ba44:(c:Int)<(N:Int):=by omega
       have ra44:IntKind.i64.wrap ((c:Int))=(c:Int):=by rw [IntKind.wrap_i64];omega
       have ec44:((y:Int)).toNat=y:=by omega
       have pc44:(0:Int)≤(y:Int):=by omega
       have bc44:(y:Int)<(N:Int):=by omega
       have rc44:IntKind.i64.wrap ((y:Int))=(y:Int):=by rw [IntKind.wrap_i64];omega
       have hDs0:D.size=d0.size:=hDs.trans hN0.symm
       have S2:Aside (GoesA tag key dt d (swp D c y) a b q y∧SWK enc k w0 blk off (swp D c y) ((wr.drew.setCells blk (off+c*k) (enc D[y]!)).setCells blk (off+y*k) (enc D[c]!))):=⟨S1.out.1.step hy hcq hyD,S1.out.2.swapped R0.out c y hxD hyD⟩
       have l44a:=S1.out.2.ld1 R0.out hDs0 P c hxD
       have l44b:=S1.out.2.ld1 R0.out hDs0 P y hyD
       have s44a:=S1.out.2.st1 R0.out hDs0 P c hxD D[y]!
       have s44b:=S1.out.2.st2 R0.out hDs0 P c y hxD hyD D[y]! D[c]!
       have n44a:(enc D[c]!).length=k:=R0.out.hk _
       have n44b:(enc D[y]!).length=k:=R0.out.hk _
       generalize enc D[c]! = cI44 at S2 l44a s44b n44a
       generalize enc D[y]! = cJ44 at S2 l44b s44a s44b n44b
       clear S1 hxD hyD hDs hDs0
       go_wp2_with fail
       go_big_region_o
       clear l44a l44b s44a s44b
       generalize (wr.drew.setCells blk (off+c*k) cJ44).setCells blk (off+y*k) cI44=w2 at S2 ⊢
       go_wp2
       go_roundg (q - y)
       case measure=>omega
       case rel=>exact ⟨y,_,by simp,by omega,Nat.le_refl _,S2⟩
      ·have hcq':¬ (c:Int)<(q:Int):=by omega
       go_wp2
       go_end0
       refine ⟨rfl,D,?_,S1.out.2⟩
       have e:c=q:=by have:=S1.out.1.le;omega
       have h:=S1.out.1
       rw [e] at h
       exact h.done HP.out (by omega) (by omega) HLK.out.1 (fun t h1 h2=>by have h9:=HLK.out.2 t h1 h2;omega)
  ·obtain ⟨u,hu⟩:∃ u,m - a=u:=⟨_,rfl⟩
   have hma:(m:Int) - (a:Int)=(u:Int):=by omega
   have wu:IntKind.i64.wrap (u:Int)=(u:Int):=by rw [IntKind.wrap_i64];omega
   have eu:((u:Int)==1)=false:=beq_eq_false_iff_ne.2 (by omega)
   by_cases hB:b - m=1
   ·have hbm:(b:Int) - (m:Int)=1:=by omega
    go_enter FG,Tryz.ntmps163
    go_wp2
    go_loopg [14,15] (m - a) (fun kx s t wr=>∃ (i j:Nat) (D:Array α),s=.int .i64 i∧t=.int .i64 j∧a≤i∧i≤j∧j≤m∧j - i≤kx∧Aside (LookB key d D a m i j∧SWK enc k w0 blk off D wr))
    case atStart=>exact ⟨a,m,d,rfl,rfl,Nat.le_refl _,by omega,Nat.le_refl _,Nat.le_refl _,LookB.start key d a m,S0.out⟩
    case round =>
     clear S0
     obtain ⟨i,j,D,rfl,rfl,him,hij,hjb,hkx,S1⟩:=hrel
     have hDs:D.size=N:=by rw [S1.out.1.same];exact hdN
     by_cases hlt:i<j
     ·have hlt':(i:Int)<(j:Int):=by omega
      obtain ⟨s,hs⟩:∃ s,i+j=s:=⟨_,rfl⟩
      have hsi:(i:Int)+(j:Int)=(s:Int):=by omega
      have ws:IntKind.i64.wrap (s:Int)=(s:Int):=by rw [IntKind.wrap_i64];omega
      obtain ⟨h,hh⟩:∃ h,s / 2=h:=⟨_,rfl⟩
      have hsh:(s:Int) / 2=(h:Int):=by omega
      have wh:IntKind.i64.wrap (h:Int)=(h:Int):=by rw [IntKind.wrap_i64];omega
      have wh1:IntKind.i64.wrap ((h:Int)+1)=((h+1:Nat):Int):=by rw [IntKind.wrap_i64];omega
      have bh:(h:Int)<(N:Int):=by omega
      have bm:(m:Int)<(N:Int):=by omega
      obtain ⟨xp,hxp⟩:∃ x,D[m]! = x:=⟨_,rfl⟩
      obtain ⟨xq,hxq⟩:∃ x,D[h]! = x:=⟨_,rfl⟩
      have hDs0:D.size=d0.size:=hDs.trans hN0.symm
      have lp:∀ n' os',Sem.run P (loadCellsFrom ⟨blk,off+m*k,none⟩ 0 k #[]) (grow (wr.drewN n') os')=.ok (enc xp).toArray (grow (wr.drewN n') os'):=fun n' os'=>by rw [← hxp];exact S1.out.2.ld R0.out hDs0 P m (by omega) n' os'
      have lq:∀ n' os',Sem.run P (loadCellsFrom ⟨blk,off+h*k,none⟩ 0 k #[]) (grow (wr.drewN n') os')=.ok (enc xq).toArray (grow (wr.drewN n') os'):=fun n' os'=>by rw [← hxq];exact S1.out.2.ld R0.out hDs0 P h (by omega) n' os'
      have hcg:=fun n' os'=>S1.out.2.cmp C0.out hDs xp xq n' os'
      have SG:Aside (∀ n' os',SWK enc k w0 blk off D (grow (wr.drewN n') os')):=fun n' os'=>S1.out.2.grown n' os'
      have HXP:=Aside.mk' hxp
      have HXQ:=Aside.mk' hxq
      clear hxp hxq hDs0
      by_cases hlv:cf xp xq<0
      ·have HK:key D[m]!<key D[h]! := by rw [HXP.out,HXQ.out];exact (HCF.out xp xq).1 hlv
       have HK1:=Aside.mk' HK
       clear HK
       have hdv:decide (cf xp xq<0)=true:=by simp;omega
       go_wp2_with fail
       go_quiet_grown (first | (go_at_fn g;refine Calls.grown_of (hcg _ _)))
       go_wp2
       go_roundg (h - i)
       case measure=>omega
       case rel=>exact ⟨i,h,D,by simp,by simp,him,by omega,by omega,Nat.le_refl _,S1.out.1.down HP.out (by omega) HK1.out,SG.out _ _⟩
      ·have HK:¬ key D[m]!<key D[h]! := by rw [HXP.out,HXQ.out];exact fun e=>hlv ((HCF.out xp xq).2 e)
       have HK1:=Aside.mk' HK
       clear HK
       have hdv:decide (cf xp xq<0)=false:=by simp;omega
       go_wp2_with fail
       go_quiet_grown (first | (go_at_fn g;refine Calls.grown_of (hcg _ _)))
       go_wp2
       go_roundg (j - (h+1))
       case measure=>omega
       case rel=>exact ⟨h+1,j,D,by simp,by simp,by omega,by omega,hjb,Nat.le_refl _,S1.out.1.up HP.out (by omega) (by have h9:=HK1.out;omega),SG.out _ _⟩
     ·have hlt':¬ (i:Int)<(j:Int):=by omega
      have HLK:=Aside.mk' (show (∀ t,a≤t→t<i→¬ key d[m]!<key d[t]!)∧∀ t,i≤t→t<m→key d[m]!<key d[t]! from ⟨fun t h1 h2=>S1.out.1.lo t h1 h2,fun t h1 h2=>S1.out.1.hi t (by omega) h2⟩)
      go_wp2
      go_loopg [17] (m - i) (fun kx s wr=>∃ (c:Nat) (D:Array α),s=.int .i64 c∧c≤m∧c - i≤kx∧Aside (GoesB tag dt d D m i c∧SWK enc k w0 blk off D wr))
      case atStart=>exact ⟨m,D,rfl,Nat.le_refl _,Nat.le_refl _,S1.out.1.goes HP.out (by omega),S1.out.2⟩
      case round =>
       clear S1 hDs
       obtain ⟨c,D,rfl,hac,hkx2,S1⟩:=hrel
       have hDs:D.size=N:=S1.out.1.size.trans hdN
       by_cases hcq:i<c
       ·have hcq':(i:Int)<(c:Int):=by omega
        obtain ⟨y,hy⟩:∃ y,c - 1=y:=⟨_,rfl⟩
        have hyi:(c:Int) - 1=(y:Int):=by omega
        have hxD:c<D.size:=by omega
        have hyD:y<D.size:=by omega
        have ea44:((c:Int)).toNat=c:=by omega
        have pa44:(0:Int)≤(c:Int):=by omega
        have ba44:(c:Int)<(N:Int):=by omega
        have ra44:IntKind.i64.wrap ((c:Int))=(c:Int):=by rw [IntKind.wrap_i64];omega
        have ec44:((y:Int)).toNat=y:=by omega
        have pc44:(0:Int)≤(y:Int):=by omega
        have bc44:(y:Int)<(N:Int):=by omega
        have rc44:IntKind.i64.wrap ((y:Int))=(y:Int):=by rw [IntKind.wrap_i64];omega
        have hDs0:D.size=d0.size:=hDs.trans hN0.symm
        have S2:Aside (GoesB tag dt d (swp D c y) m i y∧SWK enc k w0 blk off (swp D c y) ((wr.drew.setCells blk (off+c*k) (enc D[y]!)).setCells blk (off+y*k) (enc D[c]!))):=⟨S1.out.1.step hy hcq hxD,S1.out.2.swapped R0.out c y hxD hyD⟩
        have l44a:=S1.out.2.ld1 R0.out hDs0 P c hxD
        have l44b:=S1.out.2.ld1 R0.out hDs0 P y hyD
        have s44a:=S1.out.2.st1 R0.out hDs0 P c hxD D[y]!
        have s44b:=S1.out.2.st2 R0.out hDs0 P c y hxD hyD D[y]! D[c]!
        have n44a:(enc D[c]!).length=k:=R0.out.hk _
        have n44b:(enc D[y]!).length=k:=R0.out.hk _
        generalize enc D[c]! = cI44 at S2 l44a s44b n44a
        generalize enc D[y]! = cJ44 at S2 l44b s44a s44b n44b
        clear S1 hxD hyD hDs hDs0
        go_wp2_with fail
        go_big_region_o
        clear l44a l44b s44a s44b
        generalize (wr.drew.setCells blk (off+c*k) cJ44).setCells blk (off+y*k) cI44=w2 at S2 ⊢
        go_wp2
        go_roundg (y - i)
        case measure=>omega
        case rel=>exact ⟨y,_,by simp,by omega,Nat.le_refl _,S2⟩
       ·have hcq':¬ (i:Int)<(c:Int):=by omega
        go_wp2
        go_end0
        refine ⟨rfl,D,?_,S1.out.2⟩
        have e:c=i:=by have:=S1.out.1.le;omega
        have h:=S1.out.1
        rw [e] at h
        exact h.done HP.out (by omega) (by omega) ham (fun t h1 h2=>by have h9:=HLK.out.1 t h1 h2;omega) HLK.out.2
   ·obtain ⟨v,hv⟩:∃ v,b - m=v:=⟨_,rfl⟩
    have hbm:(b:Int) - (m:Int)=(v:Int):=by omega
    have wv:IntKind.i64.wrap (v:Int)=(v:Int):=by rw [IntKind.wrap_i64];omega
    have ev:((v:Int)==1)=false:=beq_eq_false_iff_ne.2 (by omega)
    obtain ⟨s0,hs0⟩:∃ s,a+b=s:=⟨_,rfl⟩
    have hs0i:(a:Int)+(b:Int)=(s0:Int):=by omega
    have ws0:IntKind.i64.wrap (s0:Int)=(s0:Int):=by rw [IntKind.wrap_i64];omega
    obtain ⟨mi,hmi⟩:∃ h,s0 / 2=h:=⟨_,rfl⟩
    have hmii:(s0:Int) / 2=(mi:Int):=by omega
    have wmi:IntKind.i64.wrap (mi:Int)=(mi:Int):=by rw [IntKind.wrap_i64];omega
    obtain ⟨nn,hnn⟩:∃ q,mi+m=q:=⟨_,rfl⟩
    have hnni:(mi:Int)+(m:Int)=(nn:Int):=by omega
    have wnn:IntKind.i64.wrap (nn:Int)=(nn:Int):=by rw [IntKind.wrap_i64];omega
    obtain ⟨p,hp⟩:∃ q,nn - 1=q:=⟨_,rfl⟩
    have hpi:(nn:Int) - 1=(p:Int):=by omega
    have wp0:IntKind.i64.wrap (p:Int)=(p:Int):=by rw [IntKind.wrap_i64];omega
    by_cases hgt:mi<m
    ·have hgti:(mi:Int)<(m:Int):=by omega
     obtain ⟨lo,hlo⟩:∃ q,nn - b=q:=⟨_,rfl⟩
     have hloi:(nn:Int) - (b:Int)=(lo:Int):=by omega
     have wlo:IntKind.i64.wrap (lo:Int)=(lo:Int):=by rw [IntKind.wrap_i64];omega
     have HSP:=Aside.mk' (show Span a m b p lo mi from ⟨by omega,by omega,fun t h=>by omega,fun t h=>by omega,fun t u h1 h2=>by omega⟩)
     go_enter FG,Tryz.ntmps163
     go_wp2
     go_loopg [20,21] ((mi) - (lo)) (fun kx s t wr=>∃ (i j:Nat) (D:Array α),s=.int .i64 i∧t=.int .i64 j∧lo≤i∧i≤j∧j≤mi∧j - i≤kx∧Aside (LookC key d D p lo mi i j∧SWK enc k w0 blk off D wr))
     case atStart=>exact ⟨lo,mi,d,rfl,rfl,Nat.le_refl _,by omega,Nat.le_refl _,Nat.le_refl _,LookC.start key d p lo mi,S0.out⟩
     case round =>
      clear S0
      obtain ⟨i,j,D,rfl,rfl,him,hij,hjb,hkx,S1⟩:=hrel
      have hDs:D.size=N:=by rw [S1.out.1.same];exact hdN
      by_cases hlt:i<j
      ·have hlt':(i:Int)<(j:Int):=by omega
       obtain ⟨s,hs⟩:∃ s,i+j=s:=⟨_,rfl⟩
       have hsi:(i:Int)+(j:Int)=(s:Int):=by omega
       have ws:IntKind.i64.wrap (s:Int)=(s:Int):=by rw [IntKind.wrap_i64];omega
       obtain ⟨h,hh⟩:∃ h,s / 2=h:=⟨_,rfl⟩
       have hsh:(s:Int) / 2=(h:Int):=by omega
       have wh:IntKind.i64.wrap (h:Int)=(h:Int):=by rw [IntKind.wrap_i64];omega
       have wh1:IntKind.i64.wrap ((h:Int)+1)=((h+1:Nat):Int):=by rw [IntKind.wrap_i64];omega
       obtain ⟨pc,hpc⟩:∃ q,p - h=q:=⟨_,rfl⟩
       have hpci:(p:Int) - (h:Int)=(pc:Int):=by omega
       have wpc:IntKind.i64.wrap (pc:Int)=(pc:Int):=by rw [IntKind.wrap_i64];omega
       have pc0:(0:Int)≤(pc:Int):=by omega
       have bh:(h:Int)<(N:Int):=by omega
       have bpc:(pc:Int)<(N:Int):=by omega
       obtain ⟨xp,hxp⟩:∃ x,D[pc]! = x:=⟨_,rfl⟩
       obtain ⟨xq,hxq⟩:∃ x,D[h]! = x:=⟨_,rfl⟩
       have hDs0:D.size=d0.size:=hDs.trans hN0.symm
       have lp:∀ n' os',Sem.run P (loadCellsFrom ⟨blk,off+pc*k,none⟩ 0 k #[]) (grow (wr.drewN n') os')=.ok (enc xp).toArray (grow (wr.drewN n') os'):=fun n' os'=>by rw [← hxp];exact S1.out.2.ld R0.out hDs0 P pc (by omega) n' os'
       have lq:∀ n' os',Sem.run P (loadCellsFrom ⟨blk,off+h*k,none⟩ 0 k #[]) (grow (wr.drewN n') os')=.ok (enc xq).toArray (grow (wr.drewN n') os'):=fun n' os'=>by rw [← hxq];exact S1.out.2.ld R0.out hDs0 P h (by omega) n' os'
       have hcg:=fun n' os'=>S1.out.2.cmp C0.out hDs xp xq n' os'
       have SG:Aside (∀ n' os',SWK enc k w0 blk off D (grow (wr.drewN n') os')):=fun n' os'=>S1.out.2.grown n' os'
       have HXP:=Aside.mk' hxp
       have HXQ:=Aside.mk' hxq
       clear hxp hxq hDs0
       by_cases hlv:cf xp xq<0
       ·have HK:key D[pc]!<key D[h]! := by rw [HXP.out,HXQ.out];exact (HCF.out xp xq).1 hlv
        have HK1:=Aside.mk' HK
        clear HK
        have hdv:decide (cf xp xq<0)=true:=by simp;omega
        go_wp2_with fail
        go_quiet_grown (first | (go_at_fn g;refine Calls.grown_of (hcg _ _)))
        go_wp2
        go_roundg (h - i)
        case measure=>omega
        case rel=>exact ⟨i,h,D,by simp,by simp,him,by omega,by omega,Nat.le_refl _,S1.out.1.down HP.out HSP.out (by omega) (by rw [hpc];exact HK1.out),SG.out _ _⟩
       ·have HK:¬ key D[pc]!<key D[h]! := by rw [HXP.out,HXQ.out];exact fun e=>hlv ((HCF.out xp xq).2 e)
        have HK1:=Aside.mk' HK
        clear HK
        have hdv:decide (cf xp xq<0)=false:=by simp;omega
        go_wp2_with fail
        go_quiet_grown (first | (go_at_fn g;refine Calls.grown_of (hcg _ _)))
        go_wp2
        go_roundg (j - (h+1))
        case measure=>omega
        case rel=>exact ⟨h+1,j,D,by simp,by simp,by omega,by omega,hjb,Nat.le_refl _,S1.out.1.up HP.out HSP.out (by omega) (by omega) (by rw [hpc];have h9:=HK1.out;omega),SG.out _ _⟩
      ·have hlt':¬ (i:Int)<(j:Int):=by omega
       obtain ⟨st,hst⟩:∃ q,i=q:=⟨_,rfl⟩
       subst hst
       obtain ⟨st,hst⟩:∃ q,q=i:=⟨_,rfl⟩
       subst hst
       obtain ⟨en,hen⟩:∃ q,nn - st=q:=⟨_,rfl⟩
       have heni:(nn:Int) - (st:Int)=(en:Int):=by omega
       have wen:IntKind.i64.wrap (en:Int)=(en:Int):=by rw [IntKind.wrap_i64];omega
       have st1:st≤mi:=by omega
       have HCUT:=Aside.mk' (show Cut tag key d a m b st mi en from by
        have h:=S1.out.1
        rw [show j=st by omega] at h
        exact h.cut HP.out HSP.out (by omega) (by omega) (by omega) ⟨by omega,by omega,by omega,by omega,by omega⟩ (fun h=>by rcases h with h | h;exact .inl h;exact .inr (by omega)) (fun _=>.inr (by omega)))
       obtain ⟨cl1,cl2,cl3,cl4,cl5⟩:=HCUT.out.le
       have S9:=Aside.mk' S1.out.1.same
       have HTD:=Aside.mk' (show TagOk tag dt D from by rw [S9.out];exact HP.out.tags)
       by_cases k1_0:st<m
       ·have k1a_0:(st:Int)<(m:Int):=by omega
        have k1b_0:decide ((st:Int)<(m:Int))=true:=by simp;omega
        have k1c_0:decide (st<m)=true:=by simp;omega
        by_cases k2_0:m<en
        ·have k2a_0:(m:Int)<(en:Int):=by omega
         have k2b_0:decide ((m:Int)<(en:Int))=true:=by simp;omega
         have k2c_0:decide (m<en)=true:=by simp;omega
         go_wp2_with fail
         refine (rotate_x T0.out FS0.out FR0.out enc (.func (.func g) #[] cb) blk off N cap st m en d0 dt D w0 _ tag HTD.out R0.out (by rw [S9.out,hdN,hN0]) S1.out.2 (by rw [S9.out,hdN]) k1_0 k2_0 (by omega) hsz).mono ?_
         rintro e we0 ⟨rfl,E0,⟨ht0,hr0⟩,hS2⟩
         have SE0:=Aside.mk' (show Half tag key dt d E0 a b st mi en∧SWK enc k w0 blk off E0 we0 from ⟨HCUT.out.half HP.out ht0 (by rw [← S9.out];exact hr0),hS2⟩)
         clear ht0 hr0 hS2 k1_0 k1a_0 k1b_0 k1c_0 k2_0 k2a_0 k2b_0 k2c_0
         by_cases k1_1:a<st
         ·have k1a_1:(a:Int)<(st:Int):=by omega
          have k1b_1:decide ((a:Int)<(st:Int))=true:=by simp;omega
          have k1c_1:decide (a<st)=true:=by simp;omega
          by_cases k2_1:st<mi
          ·have k2a_1:(st:Int)<(mi:Int):=by omega
           have k2b_1:decide ((st:Int)<(mi:Int))=true:=by simp;omega
           have k2c_1:decide (st<mi)=true:=by simp;omega
           go_wp2_with fail
           refine (IH.out a st mi E0 _ (by omega) (by rw [SE0.out.1.win.size,hdN]) SE0.out.1.one SE0.out.2 k1_1 k2_1 (by omega)).mono ?_
           rintro e we1 ⟨rfl,E1,hq0,hS2⟩
           have SE1:=Aside.mk' (show Half1 tag key dt d E1 a b mi en∧SWK enc k w0 blk off E1 we1 from ⟨SE0.out.1.merged hq0 ⟨by omega,by omega,by omega⟩,hS2⟩)
           clear hq0 hS2 k1_1 k1a_1 k1b_1 k1c_1 k2_1 k2a_1 k2b_1 k2c_1
           by_cases k1_2:mi<en
           ·have k1a_2:(mi:Int)<(en:Int):=by omega
            have k1b_2:decide ((mi:Int)<(en:Int))=true:=by simp;omega
            have k1c_2:decide (mi<en)=true:=by simp;omega
            by_cases k2_2:en<b
            ·have k2a_2:(en:Int)<(b:Int):=by omega
             have k2b_2:decide ((en:Int)<(b:Int))=true:=by simp;omega
             have k2c_2:decide (en<b)=true:=by simp;omega
             go_wp2_with fail
             refine (IH.out mi en b E1 _ (by omega) (by rw [SE1.out.1.win.size,hdN]) SE1.out.1.two SE1.out.2 k1_2 k2_2 (by omega)).mono ?_
             rintro e we2 ⟨rfl,E2,hq0,hS2⟩
             have SE2:=Aside.mk' (show PostM tag key dt d E2 a b∧SWK enc k w0 blk off E2 we2 from ⟨SE1.out.1.join hq0 (by omega),hS2⟩)
             clear hq0 hS2 k1_2 k1a_2 k1b_2 k1c_2 k2_2 k2a_2 k2b_2 k2c_2
             go_wp2
             go_end0
             exact ⟨rfl,E2,SE2.out⟩
            ·have k2a_2:¬ (en:Int)<(b:Int):=by omega
             have k2b_2:decide ((en:Int)<(b:Int))=false:=by simp;omega
             have k2c_2:decide (en<b)=false:=by simp;omega
             have SE2:=Aside.mk' (show PostM tag key dt d E1 a b∧SWK enc k w0 blk off E1 _ from ⟨SE1.out.1.right (by omega) (by omega) (by omega) (by omega),SE1.out.2⟩)
             go_wp2
             go_end0
             exact ⟨rfl,E1,SE2.out⟩
           ·have k1a_2:¬ (mi:Int)<(en:Int):=by omega
            have k1b_2:decide ((mi:Int)<(en:Int))=false:=by simp;omega
            have k1c_2:decide (mi<en)=false:=by simp;omega
            have SE2:=Aside.mk' (show PostM tag key dt d E1 a b∧SWK enc k w0 blk off E1 _ from ⟨SE1.out.1.right (by omega) (by omega) (by omega) (by omega),SE1.out.2⟩)
            go_wp2
            go_end0
            exact ⟨rfl,E1,SE2.out⟩
          ·have k2a_1:¬ (st:Int)<(mi:Int):=by omega
           have k2b_1:decide ((st:Int)<(mi:Int))=false:=by simp;omega
           have k2c_1:decide (st<mi)=false:=by simp;omega
           have SE1:=Aside.mk' (show Half1 tag key dt d E0 a b mi en∧SWK enc k w0 blk off E0 _ from ⟨SE0.out.1.left (by omega) (by omega) (by omega),SE0.out.2⟩)
           by_cases k1_2:mi<en
           ·have k1a_2:(mi:Int)<(en:Int):=by omega
            have k1b_2:decide ((mi:Int)<(en:Int))=true:=by simp;omega
            have k1c_2:decide (mi<en)=true:=by simp;omega
            by_cases k2_2:en<b
            ·have k2a_2:(en:Int)<(b:Int):=by omega
             have k2b_2:decide ((en:Int)<(b:Int))=true:=by simp;omega
             have k2c_2:decide (en<b)=true:=by simp;omega
             go_wp2_with fail
             refine (IH.out mi en b E0 _ (by omega) (by rw [SE1.out.1.win.size,hdN]) SE1.out.1.two SE1.out.2 k1_2 k2_2 (by omega)).mono ?_
             rintro e we2 ⟨rfl,E2,hq0,hS2⟩
             have SE2:=Aside.mk' (show PostM tag key dt d E2 a b∧SWK enc k w0 blk off E2 we2 from ⟨SE1.out.1.join hq0 (by omega),hS2⟩)
             clear hq0 hS2 k1_2 k1a_2 k1b_2 k1c_2 k2_2 k2a_2 k2b_2 k2c_2
             go_wp2
             go_end0
             exact ⟨rfl,E2,SE2.out⟩
            ·have k2a_2:¬ (en:Int)<(b:Int):=by omega
             have k2b_2:decide ((en:Int)<(b:Int))=false:=by simp;omega
             have k2c_2:decide (en<b)=false:=by simp;omega
             have SE2:=Aside.mk' (show PostM tag key dt d E0 a b∧SWK enc k w0 blk off E0 _ from ⟨SE1.out.1.right (by omega) (by omega) (by omega) (by omega),SE1.out.2⟩)
             go_wp2
             go_end0
             exact ⟨rfl,E0,SE2.out⟩
           ·have k1a_2:¬ (mi:Int)<(en:Int):=by omega
            have k1b_2:decide ((mi:Int)<(en:Int))=false:=by simp;omega
            have k1c_2:decide (mi<en)=false:=by simp;omega
            have SE2:=Aside.mk' (show PostM tag key dt d E0 a b∧SWK enc k w0 blk off E0 _ from ⟨SE1.out.1.right (by omega) (by omega) (by omega) (by omega),SE1.out.2⟩)
            go_wp2
            go_end0
            exact ⟨rfl,E0,SE2.out⟩
         ·have k1a_1:¬ (a:Int)<(st:Int):=by omega
          have k1b_1:decide ((a:Int)<(st:Int))=false:=by simp;omega
          have k1c_1:decide (a<st)=false:=by simp;omega
          have SE1:=Aside.mk' (show Half1 tag key dt d E0 a b mi en∧SWK enc k w0 blk off E0 _ from ⟨SE0.out.1.left (by omega) (by omega) (by omega),SE0.out.2⟩)
          by_cases k1_2:mi<en
          ·have k1a_2:(mi:Int)<(en:Int):=by omega
           have k1b_2:decide ((mi:Int)<(en:Int))=true:=by simp;omega
           have k1c_2:decide (mi<en)=true:=by simp;omega
           by_cases k2_2:en<b
           ·have k2a_2:(en:Int)<(b:Int):=by omega
            have k2b_2:decide ((en:Int)<(b:Int))=true:=by simp;omega
            have k2c_2:decide (en<b)=true:=by simp;omega
            go_wp2_with fail
            refine (IH.out mi en b E0 _ (by omega) (by rw [SE1.out.1.win.size,hdN]) SE1.out.1.two SE1.out.2 k1_2 k2_2 (by omega)).mono ?_
            rintro e we2 ⟨rfl,E2,hq0,hS2⟩
            have SE2:=Aside.mk' (show PostM tag key dt d E2 a b∧SWK enc k w0 blk off E2 we2 from ⟨SE1.out.1.join hq0 (by omega),hS2⟩)
            clear hq0 hS2 k1_2 k1a_2 k1b_2 k1c_2 k2_2 k2a_2 k2b_2 k2c_2
            go_wp2
            go_end0
            exact ⟨rfl,E2,SE2.out⟩
           ·have k2a_2:¬ (en:Int)<(b:Int):=by omega
            have k2b_2:decide ((en:Int)<(b:Int))=false:=by simp;omega
            have k2c_2:decide (en<b)=false:=by simp;omega
            have SE2:=Aside.mk' (show PostM tag key dt d E0 a b∧SWK enc k w0 blk off E0 _ from ⟨SE1.out.1.right (by omega) (by omega) (by omega) (by omega),SE1.out.2⟩)
            go_wp2
            go_end0
            exact ⟨rfl,E0,SE2.out⟩
          ·have k1a_2:¬ (mi:Int)<(en:Int):=by omega
           have k1b_2:decide ((mi:Int)<(en:Int))=false:=by simp;omega
           have k1c_2:decide (mi<en)=false:=by simp;omega
           have SE2:=Aside.mk' (show PostM tag key dt d E0 a b∧SWK enc k w0 blk off E0 _ from ⟨SE1.out.1.right (by omega) (by omega) (by omega) (by omega),SE1.out.2⟩)
           go_wp2
           go_end0
           exact ⟨rfl,E0,SE2.out⟩
        ·have k2a_0:¬ (m:Int)<(en:Int):=by omega
         have k2b_0:decide ((m:Int)<(en:Int))=false:=by simp;omega
         have k2c_0:decide (m<en)=false:=by simp;omega
         have SE0:=Aside.mk' (show Half tag key dt d D a b st mi en∧SWK enc k w0 blk off D _ from ⟨HCUT.out.half HP.out HTD.out (by rw [S9.out];exact Rot.same d (by omega) (by omega) (by omega)),S1.out.2⟩)
         by_cases k1_1:a<st
         ·have k1a_1:(a:Int)<(st:Int):=by omega
          have k1b_1:decide ((a:Int)<(st:Int))=true:=by simp;omega
          have k1c_1:decide (a<st)=true:=by simp;omega
          by_cases k2_1:st<mi
          ·have k2a_1:(st:Int)<(mi:Int):=by omega
           have k2b_1:decide ((st:Int)<(mi:Int))=true:=by simp;omega
           have k2c_1:decide (st<mi)=true:=by simp;omega
           go_wp2_with fail
           refine (IH.out a st mi D _ (by omega) (by rw [SE0.out.1.win.size,hdN]) SE0.out.1.one SE0.out.2 k1_1 k2_1 (by omega)).mono ?_
           rintro e we1 ⟨rfl,E1,hq0,hS2⟩
           have SE1:=Aside.mk' (show Half1 tag key dt d E1 a b mi en∧SWK enc k w0 blk off E1 we1 from ⟨SE0.out.1.merged hq0 ⟨by omega,by omega,by omega⟩,hS2⟩)
           clear hq0 hS2 k1_1 k1a_1 k1b_1 k1c_1 k2_1 k2a_1 k2b_1 k2c_1
           by_cases k1_2:mi<en
           ·have k1a_2:(mi:Int)<(en:Int):=by omega
            have k1b_2:decide ((mi:Int)<(en:Int))=true:=by simp;omega
            have k1c_2:decide (mi<en)=true:=by simp;omega
            by_cases k2_2:en<b
            ·have k2a_2:(en:Int)<(b:Int):=by omega
             have k2b_2:decide ((en:Int)<(b:Int))=true:=by simp;omega
             have k2c_2:decide (en<b)=true:=by simp;omega
             go_wp2_with fail
             refine (IH.out mi en b E1 _ (by omega) (by rw [SE1.out.1.win.size,hdN]) SE1.out.1.two SE1.out.2 k1_2 k2_2 (by omega)).mono ?_
             rintro e we2 ⟨rfl,E2,hq0,hS2⟩
             have SE2:=Aside.mk' (show PostM tag key dt d E2 a b∧SWK enc k w0 blk off E2 we2 from ⟨SE1.out.1.join hq0 (by omega),hS2⟩)
             clear hq0 hS2 k1_2 k1a_2 k1b_2 k1c_2 k2_2 k2a_2 k2b_2 k2c_2
             go_wp2
             go_end0
             exact ⟨rfl,E2,SE2.out⟩
            ·have k2a_2:¬ (en:Int)<(b:Int):=by omega
             have k2b_2:decide ((en:Int)<(b:Int))=false:=by simp;omega
             have k2c_2:decide (en<b)=false:=by simp;omega
             have SE2:=Aside.mk' (show PostM tag key dt d E1 a b∧SWK enc k w0 blk off E1 _ from ⟨SE1.out.1.right (by omega) (by omega) (by omega) (by omega),SE1.out.2⟩)
             go_wp2
             go_end0
             exact ⟨rfl,E1,SE2.out⟩
           ·have k1a_2:¬ (mi:Int)<(en:Int):=by omega
            have k1b_2:decide ((mi:Int)<(en:Int))=false:=by simp;omega
            have k1c_2:decide (mi<en)=false:=by simp;omega
            have SE2:=Aside.mk' (show PostM tag key dt d E1 a b∧SWK enc k w0 blk off E1 _ from ⟨SE1.out.1.right (by omega) (by omega) (by omega) (by omega),SE1.out.2⟩)
            go_wp2
            go_end0
            exact ⟨rfl,E1,SE2.out⟩
          ·have k2a_1:¬ (st:Int)<(mi:Int):=by omega
           have k2b_1:decide ((st:Int)<(mi:Int))=false:=by simp;omega
           have k2c_1:decide (st<mi)=false:=by simp;omega
           have SE1:=Aside.mk' (show Half1 tag key dt d D a b mi en∧SWK enc k w0 blk off D _ from ⟨SE0.out.1.left (by omega) (by omega) (by omega),SE0.out.2⟩)
           by_cases k1_2:mi<en
           ·have k1a_2:(mi:Int)<(en:Int):=by omega
            have k1b_2:decide ((mi:Int)<(en:Int))=true:=by simp;omega
            have k1c_2:decide (mi<en)=true:=by simp;omega
            by_cases k2_2:en<b
            ·have k2a_2:(en:Int)<(b:Int):=by omega
             have k2b_2:decide ((en:Int)<(b:Int))=true:=by simp;omega
             have k2c_2:decide (en<b)=true:=by simp;omega
             go_wp2_with fail
             refine (IH.out mi en b D _ (by omega) (by rw [SE1.out.1.win.size,hdN]) SE1.out.1.two SE1.out.2 k1_2 k2_2 (by omega)).mono ?_
             rintro e we2 ⟨rfl,E2,hq0,hS2⟩
             have SE2:=Aside.mk' (show PostM tag key dt d E2 a b∧SWK enc k w0 blk off E2 we2 from ⟨SE1.out.1.join hq0 (by omega),hS2⟩)
             clear hq0 hS2 k1_2 k1a_2 k1b_2 k1c_2 k2_2 k2a_2 k2b_2 k2c_2
             go_wp2
             go_end0
             exact ⟨rfl,E2,SE2.out⟩
            ·have k2a_2:¬ (en:Int)<(b:Int):=by omega
             have k2b_2:decide ((en:Int)<(b:Int))=false:=by simp;omega
             have k2c_2:decide (en<b)=false:=by simp;omega
             have SE2:=Aside.mk' (show PostM tag key dt d D a b∧SWK enc k w0 blk off D _ from ⟨SE1.out.1.right (by omega) (by omega) (by omega) (by omega),SE1.out.2⟩)
             go_wp2
             go_end0
             exact ⟨rfl,D,SE2.out⟩
           ·have k1a_2:¬ (mi:Int)<(en:Int):=by omega
            have k1b_2:decide ((mi:Int)<(en:Int))=false:=by simp;omega
            have k1c_2:decide (mi<en)=false:=by simp;omega
            have SE2:=Aside.mk' (show PostM tag key dt d D a b∧SWK enc k w0 blk off D _ from ⟨SE1.out.1.right (by omega) (by omega) (by omega) (by omega),SE1.out.2⟩)
            go_wp2
            go_end0
            exact ⟨rfl,D,SE2.out⟩
         ·have k1a_1:¬ (a:Int)<(st:Int):=by omega
          have k1b_1:decide ((a:Int)<(st:Int))=false:=by simp;omega
          have k1c_1:decide (a<st)=false:=by simp;omega
          have SE1:=Aside.mk' (show Half1 tag key dt d D a b mi en∧SWK enc k w0 blk off D _ from ⟨SE0.out.1.left (by omega) (by omega) (by omega),SE0.out.2⟩)
          by_cases k1_2:mi<en
          ·have k1a_2:(mi:Int)<(en:Int):=by omega
           have k1b_2:decide ((mi:Int)<(en:Int))=true:=by simp;omega
           have k1c_2:decide (mi<en)=true:=by simp;omega
           by_cases k2_2:en<b
           ·have k2a_2:(en:Int)<(b:Int):=by omega
            have k2b_2:decide ((en:Int)<(b:Int))=true:=by simp;omega
            have k2c_2:decide (en<b)=true:=by simp;omega
            go_wp2_with fail
            refine (IH.out mi en b D _ (by omega) (by rw [SE1.out.1.win.size,hdN]) SE1.out.1.two SE1.out.2 k1_2 k2_2 (by omega)).mono ?_
            rintro e we2 ⟨rfl,E2,hq0,hS2⟩
            have SE2:=Aside.mk' (show PostM tag key dt d E2 a b∧SWK enc k w0 blk off E2 we2 from ⟨SE1.out.1.join hq0 (by omega),hS2⟩)
            clear hq0 hS2 k1_2 k1a_2 k1b_2 k1c_2 k2_2 k2a_2 k2b_2 k2c_2
            go_wp2
            go_end0
            exact ⟨rfl,E2,SE2.out⟩
           ·have k2a_2:¬ (en:Int)<(b:Int):=by omega
            have k2b_2:decide ((en:Int)<(b:Int))=false:=by simp;omega
            have k2c_2:decide (en<b)=false:=by simp;omega
            have SE2:=Aside.mk' (show PostM tag key dt d D a b∧SWK enc k w0 blk off D _ from ⟨SE1.out.1.right (by omega) (by omega) (by omega) (by omega),SE1.out.2⟩)
            go_wp2
            go_end0
            exact ⟨rfl,D,SE2.out⟩
          ·have k1a_2:¬ (mi:Int)<(en:Int):=by omega
           have k1b_2:decide ((mi:Int)<(en:Int))=false:=by simp;omega
           have k1c_2:decide (mi<en)=false:=by simp;omega
           have SE2:=Aside.mk' (show PostM tag key dt d D a b∧SWK enc k w0 blk off D _ from ⟨SE1.out.1.right (by omega) (by omega) (by omega) (by omega),SE1.out.2⟩)
           go_wp2
           go_end0
           exact ⟨rfl,D,SE2.out⟩
       ·have k1a_0:¬ (st:Int)<(m:Int):=by omega
        have k1b_0:decide ((st:Int)<(m:Int))=false:=by simp;omega
        have k1c_0:decide (st<m)=false:=by simp;omega
        have SE0:=Aside.mk' (show Half tag key dt d D a b st mi en∧SWK enc k w0 blk off D _ from ⟨HCUT.out.half HP.out HTD.out (by rw [S9.out];exact Rot.same d (by omega) (by omega) (by omega)),S1.out.2⟩)
        by_cases k1_1:a<st
        ·have k1a_1:(a:Int)<(st:Int):=by omega
         have k1b_1:decide ((a:Int)<(st:Int))=true:=by simp;omega
         have k1c_1:decide (a<st)=true:=by simp;omega
         by_cases k2_1:st<mi
         ·have k2a_1:(st:Int)<(mi:Int):=by omega
          have k2b_1:decide ((st:Int)<(mi:Int))=true:=by simp;omega
          have k2c_1:decide (st<mi)=true:=by simp;omega
          go_wp2_with fail
          refine (IH.out a st mi D _ (by omega) (by rw [SE0.out.1.win.size,hdN]) SE0.out.1.one SE0.out.2 k1_1 k2_1 (by omega)).mono ?_
          rintro e we1 ⟨rfl,E1,hq0,hS2⟩
          have SE1:=Aside.mk' (show Half1 tag key dt d E1 a b mi en∧SWK enc k w0 blk off E1 we1 from ⟨SE0.out.1.merged hq0 ⟨by omega,by omega,by omega⟩,hS2⟩)
          clear hq0 hS2 k1_1 k1a_1 k1b_1 k1c_1 k2_1 k2a_1 k2b_1 k2c_1
          by_cases k1_2:mi<en
          ·have k1a_2:(mi:Int)<(en:Int):=by omega
           have k1b_2:decide ((mi:Int)<(en:Int))=true:=by simp;omega
           have k1c_2:decide (mi<en)=true:=by simp;omega
           by_cases k2_2:en<b
           ·have k2a_2:(en:Int)<(b:Int):=by omega
            have k2b_2:decide ((en:Int)<(b:Int))=true:=by simp;omega
            have k2c_2:decide (en<b)=true:=by simp;omega
            go_wp2_with fail
            refine (IH.out mi en b E1 _ (by omega) (by rw [SE1.out.1.win.size,hdN]) SE1.out.1.two SE1.out.2 k1_2 k2_2 (by omega)).mono ?_
            rintro e we2 ⟨rfl,E2,hq0,hS2⟩
            have SE2:=Aside.mk' (show PostM tag key dt d E2 a b∧SWK enc k w0 blk off E2 we2 from ⟨SE1.out.1.join hq0 (by omega),hS2⟩)
            clear hq0 hS2 k1_2 k1a_2 k1b_2 k1c_2 k2_2 k2a_2 k2b_2 k2c_2
            go_wp2
            go_end0
            exact ⟨rfl,E2,SE2.out⟩
           ·have k2a_2:¬ (en:Int)<(b:Int):=by omega
            have k2b_2:decide ((en:Int)<(b:Int))=false:=by simp;omega
            have k2c_2:decide (en<b)=false:=by simp;omega
            have SE2:=Aside.mk' (show PostM tag key dt d E1 a b∧SWK enc k w0 blk off E1 _ from ⟨SE1.out.1.right (by omega) (by omega) (by omega) (by omega),SE1.out.2⟩)
            go_wp2
            go_end0
            exact ⟨rfl,E1,SE2.out⟩
          ·have k1a_2:¬ (mi:Int)<(en:Int):=by omega
           have k1b_2:decide ((mi:Int)<(en:Int))=false:=by simp;omega
           have k1c_2:decide (mi<en)=false:=by simp;omega
           have SE2:=Aside.mk' (show PostM tag key dt d E1 a b∧SWK enc k w0 blk off E1 _ from ⟨SE1.out.1.right (by omega) (by omega) (by omega) (by omega),SE1.out.2⟩)
           go_wp2
           go_end0
           exact ⟨rfl,E1,SE2.out⟩
         ·have k2a_1:¬ (st:Int)<(mi:Int):=by omega
          have k2b_1:decide ((st:Int)<(mi:Int))=false:=by simp;omega
          have k2c_1:decide (st<mi)=false:=by simp;omega
          have SE1:=Aside.mk' (show Half1 tag key dt d D a b mi en∧SWK enc k w0 blk off D _ from ⟨SE0.out.1.left (by omega) (by omega) (by omega),SE0.out.2⟩)
          by_cases k1_2:mi<en
          ·have k1a_2:(mi:Int)<(en:Int):=by omega
           have k1b_2:decide ((mi:Int)<(en:Int))=true:=by simp;omega
           have k1c_2:decide (mi<en)=true:=by simp;omega
           by_cases k2_2:en<b
           ·have k2a_2:(en:Int)<(b:Int):=by omega
            have k2b_2:decide ((en:Int)<(b:Int))=true:=by simp;omega
            have k2c_2:decide (en<b)=true:=by simp;omega
            go_wp2_with fail
            refine (IH.out mi en b D _ (by omega) (by rw [SE1.out.1.win.size,hdN]) SE1.out.1.two SE1.out.2 k1_2 k2_2 (by omega)).mono ?_
            rintro e we2 ⟨rfl,E2,hq0,hS2⟩
            have SE2:=Aside.mk' (show PostM tag key dt d E2 a b∧SWK enc k w0 blk off E2 we2 from ⟨SE1.out.1.join hq0 (by omega),hS2⟩)
            clear hq0 hS2 k1_2 k1a_2 k1b_2 k1c_2 k2_2 k2a_2 k2b_2 k2c_2
            go_wp2
            go_end0
            exact ⟨rfl,E2,SE2.out⟩
           ·have k2a_2:¬ (en:Int)<(b:Int):=by omega
            have k2b_2:decide ((en:Int)<(b:Int))=false:=by simp;omega
            have k2c_2:decide (en<b)=false:=by simp;omega
            have SE2:=Aside.mk' (show PostM tag key dt d D a b∧SWK enc k w0 blk off D _ from ⟨SE1.out.1.right (by omega) (by omega) (by omega) (by omega),SE1.out.2⟩)
            go_wp2
            go_end0
            exact ⟨rfl,D,SE2.out⟩
          ·have k1a_2:¬ (mi:Int)<(en:Int):=by omega
           have k1b_2:decide ((mi:Int)<(en:Int))=false:=by simp;omega
           have k1c_2:decide (mi<en)=false:=by simp;omega
           have SE2:=Aside.mk' (show PostM tag key dt d D a b∧SWK enc k w0 blk off D _ from ⟨SE1.out.1.right (by omega) (by omega) (by omega) (by omega),SE1.out.2⟩)
           go_wp2
           go_end0
           exact ⟨rfl,D,SE2.out⟩
        ·have k1a_1:¬ (a:Int)<(st:Int):=by omega
         have k1b_1:decide ((a:Int)<(st:Int))=false:=by simp;omega
         have k1c_1:decide (a<st)=false:=by simp;omega
         have SE1:=Aside.mk' (show Half1 tag key dt d D a b mi en∧SWK enc k w0 blk off D _ from ⟨SE0.out.1.left (by omega) (by omega) (by omega),SE0.out.2⟩)
         by_cases k1_2:mi<en
         ·have k1a_2:(mi:Int)<(en:Int):=by omega
          have k1b_2:decide ((mi:Int)<(en:Int))=true:=by simp;omega
          have k1c_2:decide (mi<en)=true:=by simp;omega
          by_cases k2_2:en<b
          ·have k2a_2:(en:Int)<(b:Int):=by omega
           have k2b_2:decide ((en:Int)<(b:Int))=true:=by simp;omega
           have k2c_2:decide (en<b)=true:=by simp;omega
           go_wp2_with fail
           refine (IH.out mi en b D _ (by omega) (by rw [SE1.out.1.win.size,hdN]) SE1.out.1.two SE1.out.2 k1_2 k2_2 (by omega)).mono ?_
           rintro e we2 ⟨rfl,E2,hq0,hS2⟩
           have SE2:=Aside.mk' (show PostM tag key dt d E2 a b∧SWK enc k w0 blk off E2 we2 from ⟨SE1.out.1.join hq0 (by omega),hS2⟩)
           clear hq0 hS2 k1_2 k1a_2 k1b_2 k1c_2 k2_2 k2a_2 k2b_2 k2c_2
           go_wp2
           go_end0
           exact ⟨rfl,E2,SE2.out⟩
          ·have k2a_2:¬ (en:Int)<(b:Int):=by omega
           have k2b_2:decide ((en:Int)<(b:Int))=false:=by simp;omega
           have k2c_2:decide (en<b)=false:=by simp;omega
           have SE2:=Aside.mk' (show PostM tag key dt d D a b∧SWK enc k w0 blk off D _ from ⟨SE1.out.1.right (by omega) (by omega) (by omega) (by omega),SE1.out.2⟩)
           go_wp2
           go_end0
           exact ⟨rfl,D,SE2.out⟩
         ·have k1a_2:¬ (mi:Int)<(en:Int):=by omega
          have k1b_2:decide ((mi:Int)<(en:Int))=false:=by simp;omega
          have k1c_2:decide (mi<en)=false:=by simp;omega
          have SE2:=Aside.mk' (show PostM tag key dt d D a b∧SWK enc k w0 blk off D _ from ⟨SE1.out.1.right (by omega) (by omega) (by omega) (by omega),SE1.out.2⟩)
          go_wp2
          go_end0
          exact ⟨rfl,D,SE2.out⟩
    ·have hgti:¬ (mi:Int)<(m:Int):=by omega
     have HSP:=Aside.mk' (show Span a m b p a m from ⟨by omega,by omega,fun t h=>by omega,fun t h=>by omega,fun t u h1 h2=>by omega⟩)
     go_enter FG,Tryz.ntmps163
     go_wp2
     go_loopg [20,21] ((m) - (a)) (fun kx s t wr=>∃ (i j:Nat) (D:Array α),s=.int .i64 i∧t=.int .i64 j∧a≤i∧i≤j∧j≤m∧j - i≤kx∧Aside (LookC key d D p a m i j∧SWK enc k w0 blk off D wr))
     case atStart=>exact ⟨a,m,d,rfl,rfl,Nat.le_refl _,by omega,Nat.le_refl _,Nat.le_refl _,LookC.start key d p a m,S0.out⟩
     case round =>
      clear S0
      obtain ⟨i,j,D,rfl,rfl,him,hij,hjb,hkx,S1⟩:=hrel
      have hDs:D.size=N:=by rw [S1.out.1.same];exact hdN
      by_cases hlt:i<j
      ·have hlt':(i:Int)<(j:Int):=by omega
       obtain ⟨s,hs⟩:∃ s,i+j=s:=⟨_,rfl⟩
       have hsi:(i:Int)+(j:Int)=(s:Int):=by omega
       have ws:IntKind.i64.wrap (s:Int)=(s:Int):=by rw [IntKind.wrap_i64];omega
       obtain ⟨h,hh⟩:∃ h,s / 2=h:=⟨_,rfl⟩
       have hsh:(s:Int) / 2=(h:Int):=by omega
       have wh:IntKind.i64.wrap (h:Int)=(h:Int):=by rw [IntKind.wrap_i64];omega
       have wh1:IntKind.i64.wrap ((h:Int)+1)=((h+1:Nat):Int):=by rw [IntKind.wrap_i64];omega
       obtain ⟨pc,hpc⟩:∃ q,p - h=q:=⟨_,rfl⟩
       have hpci:(p:Int) - (h:Int)=(pc:Int):=by omega
       have wpc:IntKind.i64.wrap (pc:Int)=(pc:Int):=by rw [IntKind.wrap_i64];omega
       have pc0:(0:Int)≤(pc:Int):=by omega
       have bh:(h:Int)<(N:Int):=by omega
       have bpc:(pc:Int)<(N:Int):=by omega
       obtain ⟨xp,hxp⟩:∃ x,D[pc]! = x:=⟨_,rfl⟩
       obtain ⟨xq,hxq⟩:∃ x,D[h]! = x:=⟨_,rfl⟩
       have hDs0:D.size=d0.size:=hDs.trans hN0.symm
       have lp:∀ n' os',Sem.run P (loadCellsFrom ⟨blk,off+pc*k,none⟩ 0 k #[]) (grow (wr.drewN n') os')=.ok (enc xp).toArray (grow (wr.drewN n') os'):=fun n' os'=>by rw [← hxp];exact S1.out.2.ld R0.out hDs0 P pc (by omega) n' os'
       have lq:∀ n' os',Sem.run P (loadCellsFrom ⟨blk,off+h*k,none⟩ 0 k #[]) (grow (wr.drewN n') os')=.ok (enc xq).toArray (grow (wr.drewN n') os'):=fun n' os'=>by rw [← hxq];exact S1.out.2.ld R0.out hDs0 P h (by omega) n' os'
       have hcg:=fun n' os'=>S1.out.2.cmp C0.out hDs xp xq n' os'
       have SG:Aside (∀ n' os',SWK enc k w0 blk off D (grow (wr.drewN n') os')):=fun n' os'=>S1.out.2.grown n' os'
       have HXP:=Aside.mk' hxp
       have HXQ:=Aside.mk' hxq
       clear hxp hxq hDs0
       by_cases hlv:cf xp xq<0
       ·have HK:key D[pc]!<key D[h]! := by rw [HXP.out,HXQ.out];exact (HCF.out xp xq).1 hlv
        have HK1:=Aside.mk' HK
        clear HK
        have hdv:decide (cf xp xq<0)=true:=by simp;omega
        go_wp2_with fail
        go_quiet_grown (first | (go_at_fn g;refine Calls.grown_of (hcg _ _)))
        go_wp2
        go_roundg (h - i)
        case measure=>omega
        case rel=>exact ⟨i,h,D,by simp,by simp,him,by omega,by omega,Nat.le_refl _,S1.out.1.down HP.out HSP.out (by omega) (by rw [hpc];exact HK1.out),SG.out _ _⟩
       ·have HK:¬ key D[pc]!<key D[h]! := by rw [HXP.out,HXQ.out];exact fun e=>hlv ((HCF.out xp xq).2 e)
        have HK1:=Aside.mk' HK
        clear HK
        have hdv:decide (cf xp xq<0)=false:=by simp;omega
        go_wp2_with fail
        go_quiet_grown (first | (go_at_fn g;refine Calls.grown_of (hcg _ _)))
        go_wp2
        go_roundg (j - (h+1))
        case measure=>omega
        case rel=>exact ⟨h+1,j,D,by simp,by simp,by omega,by omega,hjb,Nat.le_refl _,S1.out.1.up HP.out HSP.out (by omega) (by omega) (by rw [hpc];have h9:=HK1.out;omega),SG.out _ _⟩
      ·have hlt':¬ (i:Int)<(j:Int):=by omega
       obtain ⟨st,hst⟩:∃ q,i=q:=⟨_,rfl⟩
       subst hst
       obtain ⟨st,hst⟩:∃ q,q=i:=⟨_,rfl⟩
       subst hst
       obtain ⟨en,hen⟩:∃ q,nn - st=q:=⟨_,rfl⟩
       have heni:(nn:Int) - (st:Int)=(en:Int):=by omega
       have wen:IntKind.i64.wrap (en:Int)=(en:Int):=by rw [IntKind.wrap_i64];omega
       have st1:st≤m:=by omega
       have HCUT:=Aside.mk' (show Cut tag key d a m b st mi en from by
        have h:=S1.out.1
        rw [show j=st by omega] at h
        exact h.cut HP.out HSP.out (by omega) (by omega) (by omega) ⟨by omega,by omega,by omega,by omega,by omega⟩ (fun _=>.inl rfl) (fun _=>.inl (by omega)))
       obtain ⟨cl1,cl2,cl3,cl4,cl5⟩:=HCUT.out.le
       have S9:=Aside.mk' S1.out.1.same
       have HTD:=Aside.mk' (show TagOk tag dt D from by rw [S9.out];exact HP.out.tags)
       by_cases k1_0:st<m
       ·have k1a_0:(st:Int)<(m:Int):=by omega
        have k1b_0:decide ((st:Int)<(m:Int))=true:=by simp;omega
        have k1c_0:decide (st<m)=true:=by simp;omega
        by_cases k2_0:m<en
        ·have k2a_0:(m:Int)<(en:Int):=by omega
         have k2b_0:decide ((m:Int)<(en:Int))=true:=by simp;omega
         have k2c_0:decide (m<en)=true:=by simp;omega
         go_wp2_with fail
         refine (rotate_x T0.out FS0.out FR0.out enc (.func (.func g) #[] cb) blk off N cap st m en d0 dt D w0 _ tag HTD.out R0.out (by rw [S9.out,hdN,hN0]) S1.out.2 (by rw [S9.out,hdN]) k1_0 k2_0 (by omega) hsz).mono ?_
         rintro e we0 ⟨rfl,E0,⟨ht0,hr0⟩,hS2⟩
         have SE0:=Aside.mk' (show Half tag key dt d E0 a b st mi en∧SWK enc k w0 blk off E0 we0 from ⟨HCUT.out.half HP.out ht0 (by rw [← S9.out];exact hr0),hS2⟩)
         clear ht0 hr0 hS2 k1_0 k1a_0 k1b_0 k1c_0 k2_0 k2a_0 k2b_0 k2c_0
         by_cases k1_1:a<st
         ·have k1a_1:(a:Int)<(st:Int):=by omega
          have k1b_1:decide ((a:Int)<(st:Int))=true:=by simp;omega
          have k1c_1:decide (a<st)=true:=by simp;omega
          by_cases k2_1:st<mi
          ·have k2a_1:(st:Int)<(mi:Int):=by omega
           have k2b_1:decide ((st:Int)<(mi:Int))=true:=by simp;omega
           have k2c_1:decide (st<mi)=true:=by simp;omega
           go_wp2_with fail
           refine (IH.out a st mi E0 _ (by omega) (by rw [SE0.out.1.win.size,hdN]) SE0.out.1.one SE0.out.2 k1_1 k2_1 (by omega)).mono ?_
           rintro e we1 ⟨rfl,E1,hq0,hS2⟩
           have SE1:=Aside.mk' (show Half1 tag key dt d E1 a b mi en∧SWK enc k w0 blk off E1 we1 from ⟨SE0.out.1.merged hq0 ⟨by omega,by omega,by omega⟩,hS2⟩)
           clear hq0 hS2 k1_1 k1a_1 k1b_1 k1c_1 k2_1 k2a_1 k2b_1 k2c_1
           by_cases k1_2:mi<en
           ·have k1a_2:(mi:Int)<(en:Int):=by omega
            have k1b_2:decide ((mi:Int)<(en:Int))=true:=by simp;omega
            have k1c_2:decide (mi<en)=true:=by simp;omega
            by_cases k2_2:en<b
            ·have k2a_2:(en:Int)<(b:Int):=by omega
             have k2b_2:decide ((en:Int)<(b:Int))=true:=by simp;omega
             have k2c_2:decide (en<b)=true:=by simp;omega
             go_wp2_with fail
             refine (IH.out mi en b E1 _ (by omega) (by rw [SE1.out.1.win.size,hdN]) SE1.out.1.two SE1.out.2 k1_2 k2_2 (by omega)).mono ?_
             rintro e we2 ⟨rfl,E2,hq0,hS2⟩
             have SE2:=Aside.mk' (show PostM tag key dt d E2 a b∧SWK enc k w0 blk off E2 we2 from ⟨SE1.out.1.join hq0 (by omega),hS2⟩)
             clear hq0 hS2 k1_2 k1a_2 k1b_2 k1c_2 k2_2 k2a_2 k2b_2 k2c_2
             go_wp2
             go_end0
             exact ⟨rfl,E2,SE2.out⟩
            ·have k2a_2:¬ (en:Int)<(b:Int):=by omega
             have k2b_2:decide ((en:Int)<(b:Int))=false:=by simp;omega
             have k2c_2:decide (en<b)=false:=by simp;omega
             have SE2:=Aside.mk' (show PostM tag key dt d E1 a b∧SWK enc k w0 blk off E1 _ from ⟨SE1.out.1.right (by omega) (by omega) (by omega) (by omega),SE1.out.2⟩)
             go_wp2
             go_end0
             exact ⟨rfl,E1,SE2.out⟩
           ·have k1a_2:¬ (mi:Int)<(en:Int):=by omega
            have k1b_2:decide ((mi:Int)<(en:Int))=false:=by simp;omega
            have k1c_2:decide (mi<en)=false:=by simp;omega
            have SE2:=Aside.mk' (show PostM tag key dt d E1 a b∧SWK enc k w0 blk off E1 _ from ⟨SE1.out.1.right (by omega) (by omega) (by omega) (by omega),SE1.out.2⟩)
            go_wp2
            go_end0
            exact ⟨rfl,E1,SE2.out⟩
          ·have k2a_1:¬ (st:Int)<(mi:Int):=by omega
           have k2b_1:decide ((st:Int)<(mi:Int))=false:=by simp;omega
           have k2c_1:decide (st<mi)=false:=by simp;omega
           have SE1:=Aside.mk' (show Half1 tag key dt d E0 a b mi en∧SWK enc k w0 blk off E0 _ from ⟨SE0.out.1.left (by omega) (by omega) (by omega),SE0.out.2⟩)
           by_cases k1_2:mi<en
           ·have k1a_2:(mi:Int)<(en:Int):=by omega
            have k1b_2:decide ((mi:Int)<(en:Int))=true:=by simp;omega
            have k1c_2:decide (mi<en)=true:=by simp;omega
            by_cases k2_2:en<b
            ·have k2a_2:(en:Int)<(b:Int):=by omega
             have k2b_2:decide ((en:Int)<(b:Int))=true:=by simp;omega
             have k2c_2:decide (en<b)=true:=by simp;omega
             go_wp2_with fail
             refine (IH.out mi en b E0 _ (by omega) (by rw [SE1.out.1.win.size,hdN]) SE1.out.1.two SE1.out.2 k1_2 k2_2 (by omega)).mono ?_
             rintro e we2 ⟨rfl,E2,hq0,hS2⟩
             have SE2:=Aside.mk' (show PostM tag key dt d E2 a b∧SWK enc k w0 blk off E2 we2 from ⟨SE1.out.1.join hq0 (by omega),hS2⟩)
             clear hq0 hS2 k1_2 k1a_2 k1b_2 k1c_2 k2_2 k2a_2 k2b_2 k2c_2
             go_wp2
             go_end0
             exact ⟨rfl,E2,SE2.out⟩
            ·have k2a_2:¬ (en:Int)<(b:Int):=by omega
             have k2b_2:decide ((en:Int)<(b:Int))=false:=by simp;omega
             have k2c_2:decide (en<b)=false:=by simp;omega
             have SE2:=Aside.mk' (show PostM tag key dt d E0 a b∧SWK enc k w0 blk off E0 _ from ⟨SE1.out.1.right (by omega) (by omega) (by omega) (by omega),SE1.out.2⟩)
             go_wp2
             go_end0
             exact ⟨rfl,E0,SE2.out⟩
           ·have k1a_2:¬ (mi:Int)<(en:Int):=by omega
            have k1b_2:decide ((mi:Int)<(en:Int))=false:=by simp;omega
            have k1c_2:decide (mi<en)=false:=by simp;omega
            have SE2:=Aside.mk' (show PostM tag key dt d E0 a b∧SWK enc k w0 blk off E0 _ from ⟨SE1.out.1.right (by omega) (by omega) (by omega) (by omega),SE1.out.2⟩)
            go_wp2
            go_end0
            exact ⟨rfl,E0,SE2.out⟩
         ·have k1a_1:¬ (a:Int)<(st:Int):=by omega
          have k1b_1:decide ((a:Int)<(st:Int))=false:=by simp;omega
          have k1c_1:decide (a<st)=false:=by simp;omega
          have SE1:=Aside.mk' (show Half1 tag key dt d E0 a b mi en∧SWK enc k w0 blk off E0 _ from ⟨SE0.out.1.left (by omega) (by omega) (by omega),SE0.out.2⟩)
          by_cases k1_2:mi<en
          ·have k1a_2:(mi:Int)<(en:Int):=by omega
           have k1b_2:decide ((mi:Int)<(en:Int))=true:=by simp;omega
           have k1c_2:decide (mi<en)=true:=by simp;omega
           by_cases k2_2:en<b
           ·have k2a_2:(en:Int)<(b:Int):=by omega
            have k2b_2:decide ((en:Int)<(b:Int))=true:=by simp;omega
            have k2c_2:decide (en<b)=true:=by simp;omega
            go_wp2_with fail
            refine (IH.out mi en b E0 _ (by omega) (by rw [SE1.out.1.win.size,hdN]) SE1.out.1.two SE1.out.2 k1_2 k2_2 (by omega)).mono ?_
            rintro e we2 ⟨rfl,E2,hq0,hS2⟩
            have SE2:=Aside.mk' (show PostM tag key dt d E2 a b∧SWK enc k w0 blk off E2 we2 from ⟨SE1.out.1.join hq0 (by omega),hS2⟩)
            clear hq0 hS2 k1_2 k1a_2 k1b_2 k1c_2 k2_2 k2a_2 k2b_2 k2c_2
            go_wp2
            go_end0
            exact ⟨rfl,E2,SE2.out⟩
           ·have k2a_2:¬ (en:Int)<(b:Int):=by omega
            have k2b_2:decide ((en:Int)<(b:Int))=false:=by simp;omega
            have k2c_2:decide (en<b)=false:=by simp;omega
            have SE2:=Aside.mk' (show PostM tag key dt d E0 a b∧SWK enc k w0 blk off E0 _ from ⟨SE1.out.1.right (by omega) (by omega) (by omega) (by omega),SE1.out.2⟩)
            go_wp2
            go_end0
            exact ⟨rfl,E0,SE2.out⟩
          ·have k1a_2:¬ (mi:Int)<(en:Int):=by omega
           have k1b_2:decide ((mi:Int)<(en:Int))=false:=by simp;omega
           have k1c_2:decide (mi<en)=false:=by simp;omega
           have SE2:=Aside.mk' (show PostM tag key dt d E0 a b∧SWK enc k w0 blk off E0 _ from ⟨SE1.out.1.right (by omega) (by omega) (by omega) (by omega),SE1.out.2⟩)
           go_wp2
           go_end0
           exact ⟨rfl,E0,SE2.out⟩
        ·have k2a_0:¬ (m:Int)<(en:Int):=by omega
         have k2b_0:decide ((m:Int)<(en:Int))=false:=by simp;omega
         have k2c_0:decide (m<en)=false:=by simp;omega
         have SE0:=Aside.mk' (show Half tag key dt d D a b st mi en∧SWK enc k w0 blk off D _ from ⟨HCUT.out.half HP.out HTD.out (by rw [S9.out];exact Rot.same d (by omega) (by omega) (by omega)),S1.out.2⟩)
         by_cases k1_1:a<st
         ·have k1a_1:(a:Int)<(st:Int):=by omega
          have k1b_1:decide ((a:Int)<(st:Int))=true:=by simp;omega
          have k1c_1:decide (a<st)=true:=by simp;omega
          by_cases k2_1:st<mi
          ·have k2a_1:(st:Int)<(mi:Int):=by omega
           have k2b_1:decide ((st:Int)<(mi:Int))=true:=by simp;omega
           have k2c_1:decide (st<mi)=true:=by simp;omega
           go_wp2_with fail
           refine (IH.out a st mi D _ (by omega) (by rw [SE0.out.1.win.size,hdN]) SE0.out.1.one SE0.out.2 k1_1 k2_1 (by omega)).mono ?_
           rintro e we1 ⟨rfl,E1,hq0,hS2⟩
           have SE1:=Aside.mk' (show Half1 tag key dt d E1 a b mi en∧SWK enc k w0 blk off E1 we1 from ⟨SE0.out.1.merged hq0 ⟨by omega,by omega,by omega⟩,hS2⟩)
           clear hq0 hS2 k1_1 k1a_1 k1b_1 k1c_1 k2_1 k2a_1 k2b_1 k2c_1
           by_cases k1_2:mi<en
           ·have k1a_2:(mi:Int)<(en:Int):=by omega
            have k1b_2:decide ((mi:Int)<(en:Int))=true:=by simp;omega
            have k1c_2:decide (mi<en)=true:=by simp;omega
            by_cases k2_2:en<b
            ·have k2a_2:(en:Int)<(b:Int):=by omega
             have k2b_2:decide ((en:Int)<(b:Int))=true:=by simp;omega
             have k2c_2:decide (en<b)=true:=by simp;omega
             go_wp2_with fail
             refine (IH.out mi en b E1 _ (by omega) (by rw [SE1.out.1.win.size,hdN]) SE1.out.1.two SE1.out.2 k1_2 k2_2 (by omega)).mono ?_
             rintro e we2 ⟨rfl,E2,hq0,hS2⟩
             have SE2:=Aside.mk' (show PostM tag key dt d E2 a b∧SWK enc k w0 blk off E2 we2 from ⟨SE1.out.1.join hq0 (by omega),hS2⟩)
             clear hq0 hS2 k1_2 k1a_2 k1b_2 k1c_2 k2_2 k2a_2 k2b_2 k2c_2
             go_wp2
             go_end0
             exact ⟨rfl,E2,SE2.out⟩
            ·have k2a_2:¬ (en:Int)<(b:Int):=by omega
             have k2b_2:decide ((en:Int)<(b:Int))=false:=by simp;omega
             have k2c_2:decide (en<b)=false:=by simp;omega
             have SE2:=Aside.mk' (show PostM tag key dt d E1 a b∧SWK enc k w0 blk off E1 _ from ⟨SE1.out.1.right (by omega) (by omega) (by omega) (by omega),SE1.out.2⟩)
             go_wp2
             go_end0
             exact ⟨rfl,E1,SE2.out⟩
           ·have k1a_2:¬ (mi:Int)<(en:Int):=by omega
            have k1b_2:decide ((mi:Int)<(en:Int))=false:=by simp;omega
            have k1c_2:decide (mi<en)=false:=by simp;omega
            have SE2:=Aside.mk' (show PostM tag key dt d E1 a b∧SWK enc k w0 blk off E1 _ from ⟨SE1.out.1.right (by omega) (by omega) (by omega) (by omega),SE1.out.2⟩)
            go_wp2
            go_end0
            exact ⟨rfl,E1,SE2.out⟩
          ·have k2a_1:¬ (st:Int)<(mi:Int):=by omega
           have k2b_1:decide ((st:Int)<(mi:Int))=false:=by simp;omega
           have k2c_1:decide (st<mi)=false:=by simp;omega
           have SE1:=Aside.mk' (show Half1 tag key dt d D a b mi en∧SWK enc k w0 blk off D _ from ⟨SE0.out.1.left (by omega) (by omega) (by omega),SE0.out.2⟩)
           by_cases k1_2:mi<en
           ·have k1a_2:(mi:Int)<(en:Int):=by omega
            have k1b_2:decide ((mi:Int)<(en:Int))=true:=by simp;omega
            have k1c_2:decide (mi<en)=true:=by simp;omega
            by_cases k2_2:en<b
            ·have k2a_2:(en:Int)<(b:Int):=by omega
             have k2b_2:decide ((en:Int)<(b:Int))=true:=by simp;omega
             have k2c_2:decide (en<b)=true:=by simp;omega
             go_wp2_with fail
             refine (IH.out mi en b D _ (by omega) (by rw [SE1.out.1.win.size,hdN]) SE1.out.1.two SE1.out.2 k1_2 k2_2 (by omega)).mono ?_
             rintro e we2 ⟨rfl,E2,hq0,hS2⟩
             have SE2:=Aside.mk' (show PostM tag key dt d E2 a b∧SWK enc k w0 blk off E2 we2 from ⟨SE1.out.1.join hq0 (by omega),hS2⟩)
             clear hq0 hS2 k1_2 k1a_2 k1b_2 k1c_2 k2_2 k2a_2 k2b_2 k2c_2
             go_wp2
             go_end0
             exact ⟨rfl,E2,SE2.out⟩
            ·have k2a_2:¬ (en:Int)<(b:Int):=by omega
             have k2b_2:decide ((en:Int)<(b:Int))=false:=by simp;omega
             have k2c_2:decide (en<b)=false:=by simp;omega
             have SE2:=Aside.mk' (show PostM tag key dt d D a b∧SWK enc k w0 blk off D _ from ⟨SE1.out.1.right (by omega) (by omega) (by omega) (by omega),SE1.out.2⟩)
             go_wp2
             go_end0
             exact ⟨rfl,D,SE2.out⟩
           ·have k1a_2:¬ (mi:Int)<(en:Int):=by omega
            have k1b_2:decide ((mi:Int)<(en:Int))=false:=by simp;omega
            have k1c_2:decide (mi<en)=false:=by simp;omega
            have SE2:=Aside.mk' (show PostM tag key dt d D a b∧SWK enc k w0 blk off D _ from ⟨SE1.out.1.right (by omega) (by omega) (by omega) (by omega),SE1.out.2⟩)
            go_wp2
            go_end0
            exact ⟨rfl,D,SE2.out⟩
         ·have k1a_1:¬ (a:Int)<(st:Int):=by omega
          have k1b_1:decide ((a:Int)<(st:Int))=false:=by simp;omega
          have k1c_1:decide (a<st)=false:=by simp;omega
          have SE1:=Aside.mk' (show Half1 tag key dt d D a b mi en∧SWK enc k w0 blk off D _ from ⟨SE0.out.1.left (by omega) (by omega) (by omega),SE0.out.2⟩)
          by_cases k1_2:mi<en
          ·have k1a_2:(mi:Int)<(en:Int):=by omega
           have k1b_2:decide ((mi:Int)<(en:Int))=true:=by simp;omega
           have k1c_2:decide (mi<en)=true:=by simp;omega
           by_cases k2_2:en<b
           ·have k2a_2:(en:Int)<(b:Int):=by omega
            have k2b_2:decide ((en:Int)<(b:Int))=true:=by simp;omega
            have k2c_2:decide (en<b)=true:=by simp;omega
            go_wp2_with fail
            refine (IH.out mi en b D _ (by omega) (by rw [SE1.out.1.win.size,hdN]) SE1.out.1.two SE1.out.2 k1_2 k2_2 (by omega)).mono ?_
            rintro e we2 ⟨rfl,E2,hq0,hS2⟩
            have SE2:=Aside.mk' (show PostM tag key dt d E2 a b∧SWK enc k w0 blk off E2 we2 from ⟨SE1.out.1.join hq0 (by omega),hS2⟩)
            clear hq0 hS2 k1_2 k1a_2 k1b_2 k1c_2 k2_2 k2a_2 k2b_2 k2c_2
            go_wp2
            go_end0
            exact ⟨rfl,E2,SE2.out⟩
           ·have k2a_2:¬ (en:Int)<(b:Int):=by omega
            have k2b_2:decide ((en:Int)<(b:Int))=false:=by simp;omega
            have k2c_2:decide (en<b)=false:=by simp;omega
            have SE2:=Aside.mk' (show PostM tag key dt d D a b∧SWK enc k w0 blk off D _ from ⟨SE1.out.1.right (by omega) (by omega) (by omega) (by omega),SE1.out.2⟩)
            go_wp2
            go_end0
            exact ⟨rfl,D,SE2.out⟩
          ·have k1a_2:¬ (mi:Int)<(en:Int):=by omega
           have k1b_2:decide ((mi:Int)<(en:Int))=false:=by simp;omega
           have k1c_2:decide (mi<en)=false:=by simp;omega
           have SE2:=Aside.mk' (show PostM tag key dt d D a b∧SWK enc k w0 blk off D _ from ⟨SE1.out.1.right (by omega) (by omega) (by omega) (by omega),SE1.out.2⟩)
           go_wp2
           go_end0
           exact ⟨rfl,D,SE2.out⟩
       ·have k1a_0:¬ (st:Int)<(m:Int):=by omega
        have k1b_0:decide ((st:Int)<(m:Int))=false:=by simp;omega
        have k1c_0:decide (st<m)=false:=by simp;omega
        have SE0:=Aside.mk' (show Half tag key dt d D a b st mi en∧SWK enc k w0 blk off D _ from ⟨HCUT.out.half HP.out HTD.out (by rw [S9.out];exact Rot.same d (by omega) (by omega) (by omega)),S1.out.2⟩)
        by_cases k1_1:a<st
        ·have k1a_1:(a:Int)<(st:Int):=by omega
         have k1b_1:decide ((a:Int)<(st:Int))=true:=by simp;omega
         have k1c_1:decide (a<st)=true:=by simp;omega
         by_cases k2_1:st<mi
         ·have k2a_1:(st:Int)<(mi:Int):=by omega
          have k2b_1:decide ((st:Int)<(mi:Int))=true:=by simp;omega
          have k2c_1:decide (st<mi)=true:=by simp;omega
          go_wp2_with fail
          refine (IH.out a st mi D _ (by omega) (by rw [SE0.out.1.win.size,hdN]) SE0.out.1.one SE0.out.2 k1_1 k2_1 (by omega)).mono ?_
          rintro e we1 ⟨rfl,E1,hq0,hS2⟩
          have SE1:=Aside.mk' (show Half1 tag key dt d E1 a b mi en∧SWK enc k w0 blk off E1 we1 from ⟨SE0.out.1.merged hq0 ⟨by omega,by omega,by omega⟩,hS2⟩)
          clear hq0 hS2 k1_1 k1a_1 k1b_1 k1c_1 k2_1 k2a_1 k2b_1 k2c_1
          by_cases k1_2:mi<en
          ·have k1a_2:(mi:Int)<(en:Int):=by omega
           have k1b_2:decide ((mi:Int)<(en:Int))=true:=by simp;omega
           have k1c_2:decide (mi<en)=true:=by simp;omega
           by_cases k2_2:en<b
           ·have k2a_2:(en:Int)<(b:Int):=by omega
            have k2b_2:decide ((en:Int)<(b:Int))=true:=by simp;omega
            have k2c_2:decide (en<b)=true:=by simp;omega
            go_wp2_with fail
            refine (IH.out mi en b E1 _ (by omega) (by rw [SE1.out.1.win.size,hdN]) SE1.out.1.two SE1.out.2 k1_2 k2_2 (by omega)).mono ?_
            rintro e we2 ⟨rfl,E2,hq0,hS2⟩
            have SE2:=Aside.mk' (show PostM tag key dt d E2 a b∧SWK enc k w0 blk off E2 we2 from ⟨SE1.out.1.join hq0 (by omega),hS2⟩)
            clear hq0 hS2 k1_2 k1a_2 k1b_2 k1c_2 k2_2 k2a_2 k2b_2 k2c_2
            go_wp2
            go_end0
            exact ⟨rfl,E2,SE2.out⟩
           ·have k2a_2:¬ (en:Int)<(b:Int):=by omega
            have k2b_2:decide ((en:Int)<(b:Int))=false:=by simp;omega
            have k2c_2:decide (en<b)=false:=by simp;omega
            have SE2:=Aside.mk' (show PostM tag key dt d E1 a b∧SWK enc k w0 blk off E1 _ from ⟨SE1.out.1.right (by omega) (by omega) (by omega) (by omega),SE1.out.2⟩)
            go_wp2
            go_end0
            exact ⟨rfl,E1,SE2.out⟩
          ·have k1a_2:¬ (mi:Int)<(en:Int):=by omega
           have k1b_2:decide ((mi:Int)<(en:Int))=false:=by simp;omega
           have k1c_2:decide (mi<en)=false:=by simp;omega
           have SE2:=Aside.mk' (show PostM tag key dt d E1 a b∧SWK enc k w0 blk off E1 _ from ⟨SE1.out.1.right (by omega) (by omega) (by omega) (by omega),SE1.out.2⟩)
           go_wp2
           go_end0
           exact ⟨rfl,E1,SE2.out⟩
         ·have k2a_1:¬ (st:Int)<(mi:Int):=by omega
          have k2b_1:decide ((st:Int)<(mi:Int))=false:=by simp;omega
          have k2c_1:decide (st<mi)=false:=by simp;omega
          have SE1:=Aside.mk' (show Half1 tag key dt d D a b mi en∧SWK enc k w0 blk off D _ from ⟨SE0.out.1.left (by omega) (by omega) (by omega),SE0.out.2⟩)
          by_cases k1_2:mi<en
          ·have k1a_2:(mi:Int)<(en:Int):=by omega
           have k1b_2:decide ((mi:Int)<(en:Int))=true:=by simp;omega
           have k1c_2:decide (mi<en)=true:=by simp;omega
           by_cases k2_2:en<b
           ·have k2a_2:(en:Int)<(b:Int):=by omega
            have k2b_2:decide ((en:Int)<(b:Int))=true:=by simp;omega
            have k2c_2:decide (en<b)=true:=by simp;omega
            go_wp2_with fail
            refine (IH.out mi en b D _ (by omega) (by rw [SE1.out.1.win.size,hdN]) SE1.out.1.two SE1.out.2 k1_2 k2_2 (by omega)).mono ?_
            rintro e we2 ⟨rfl,E2,hq0,hS2⟩
            have SE2:=Aside.mk' (show PostM tag key dt d E2 a b∧SWK enc k w0 blk off E2 we2 from ⟨SE1.out.1.join hq0 (by omega),hS2⟩)
            clear hq0 hS2 k1_2 k1a_2 k1b_2 k1c_2 k2_2 k2a_2 k2b_2 k2c_2
            go_wp2
            go_end0
            exact ⟨rfl,E2,SE2.out⟩
           ·have k2a_2:¬ (en:Int)<(b:Int):=by omega
            have k2b_2:decide ((en:Int)<(b:Int))=false:=by simp;omega
            have k2c_2:decide (en<b)=false:=by simp;omega
            have SE2:=Aside.mk' (show PostM tag key dt d D a b∧SWK enc k w0 blk off D _ from ⟨SE1.out.1.right (by omega) (by omega) (by omega) (by omega),SE1.out.2⟩)
            go_wp2
            go_end0
            exact ⟨rfl,D,SE2.out⟩
          ·have k1a_2:¬ (mi:Int)<(en:Int):=by omega
           have k1b_2:decide ((mi:Int)<(en:Int))=false:=by simp;omega
           have k1c_2:decide (mi<en)=false:=by simp;omega
           have SE2:=Aside.mk' (show PostM tag key dt d D a b∧SWK enc k w0 blk off D _ from ⟨SE1.out.1.right (by omega) (by omega) (by omega) (by omega),SE1.out.2⟩)
           go_wp2
           go_end0
           exact ⟨rfl,D,SE2.out⟩
        ·have k1a_1:¬ (a:Int)<(st:Int):=by omega
         have k1b_1:decide ((a:Int)<(st:Int))=false:=by simp;omega
         have k1c_1:decide (a<st)=false:=by simp;omega
         have SE1:=Aside.mk' (show Half1 tag key dt d D a b mi en∧SWK enc k w0 blk off D _ from ⟨SE0.out.1.left (by omega) (by omega) (by omega),SE0.out.2⟩)
         by_cases k1_2:mi<en
         ·have k1a_2:(mi:Int)<(en:Int):=by omega
          have k1b_2:decide ((mi:Int)<(en:Int))=true:=by simp;omega
          have k1c_2:decide (mi<en)=true:=by simp;omega
          by_cases k2_2:en<b
          ·have k2a_2:(en:Int)<(b:Int):=by omega
           have k2b_2:decide ((en:Int)<(b:Int))=true:=by simp;omega
           have k2c_2:decide (en<b)=true:=by simp;omega
           go_wp2_with fail
           refine (IH.out mi en b D _ (by omega) (by rw [SE1.out.1.win.size,hdN]) SE1.out.1.two SE1.out.2 k1_2 k2_2 (by omega)).mono ?_
           rintro e we2 ⟨rfl,E2,hq0,hS2⟩
           have SE2:=Aside.mk' (show PostM tag key dt d E2 a b∧SWK enc k w0 blk off E2 we2 from ⟨SE1.out.1.join hq0 (by omega),hS2⟩)
           clear hq0 hS2 k1_2 k1a_2 k1b_2 k1c_2 k2_2 k2a_2 k2b_2 k2c_2
           go_wp2
           go_end0
           exact ⟨rfl,E2,SE2.out⟩
          ·have k2a_2:¬ (en:Int)<(b:Int):=by omega
           have k2b_2:decide ((en:Int)<(b:Int))=false:=by simp;omega
           have k2c_2:decide (en<b)=false:=by simp;omega
           have SE2:=Aside.mk' (show PostM tag key dt d D a b∧SWK enc k w0 blk off D _ from ⟨SE1.out.1.right (by omega) (by omega) (by omega) (by omega),SE1.out.2⟩)
           go_wp2
           go_end0
           exact ⟨rfl,D,SE2.out⟩
         ·have k1a_2:¬ (mi:Int)<(en:Int):=by omega
          have k1b_2:decide ((mi:Int)<(en:Int))=false:=by simp;omega
          have k1c_2:decide (mi<en)=false:=by simp;omega
          have SE2:=Aside.mk' (show PostM tag key dt d D a b∧SWK enc k w0 blk off D _ from ⟨SE1.out.1.right (by omega) (by omega) (by omega) (by omega),SE1.out.2⟩)
          go_wp2
          go_end0
          exact ⟨rfl,D,SE2.out⟩
end
end Go.Proofs.YtlkolcokjmlmjaaGreat.Wk
