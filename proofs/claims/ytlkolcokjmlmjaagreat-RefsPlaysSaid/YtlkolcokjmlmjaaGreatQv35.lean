/- Texts put together: VShR0, VShR1, VShR2, VRg2. -/
import Derived.Test.YtlkolcokjmlmjaaGreatQv27
import Derived.Test.YtlkolcokjmlmjaaGreatQv28
import Derived.Test.YtlkolcokjmlmjaaGreatQv31
import Derived.Test.YtlkolcokjmlmjaaGreatQv15
import Derived.Test.YtlkolcokjmlmjaaGreatQv18
import Derived.Test.YtlkolcokjmlmjaaGreatQv33
namespace Go.Proofs.YtlkolcokjmlmjaaGreat.Sh
open Go.RowKit
def KPost (w:World) (e:Ending) (w':World):Prop:=∃ g,e=.returned (.slice (some ⟨g,0,none⟩) 64 64)∧Blk w' g 173 kv.toArray∧w.heap.size≤g∧Below w.heap.size w w'
end Go.Proofs.YtlkolcokjmlmjaaGreat.Sh
namespace Go.Proofs.YtlkolcokjmlmjaaGreat.Sh
open Go.RowKit
theorem Own.nil_ (w:World) (B:Nat):Own w B (.slice none 0 0) []:=World.ownsRow_nil w B 5 1
end Go.Proofs.YtlkolcokjmlmjaaGreat.Sh
namespace Go.Proofs.YtlkolcokjmlmjaaGreat.Sh
open Go.RowKit
def dgi (c:UInt8):Int:=match dv c with | some v=>bi v | none=>-1
set_option maxHeartbeats 400000 in
theorem digit_any (c:UInt8) (w:World):Calls Tryz.prog 124 #[.int .u8 (bi c)] w fun e w'=>e=.returned (.int .i64 (dgi c))∧w=w':=by
 have hb:=bi_lt c
 rcases dv_cases c with ⟨h1,h2⟩ | ⟨h1,h1',h2⟩ | ⟨h1,h1',h2⟩ | ⟨h1,h1',h2⟩ | ⟨h1,h2⟩
 ·have hd:dgi c=-1:=by unfold dgi;rw [h2]
  rw [hd]
  clear hd h2
  generalize bi c=x at *
  go_enter Tryz.func124,Tryz.ntmps124
  go_wp2
  go_ret
  exact ⟨rfl,rfl⟩
 ·have hd:dgi c=bi c - 48:=by unfold dgi;rw [h2];exact bi_sub (bi c - 48) (by omega) (by omega)
  rw [hd]
  clear hd h2
  generalize bi c=x at *
  go_enter Tryz.func124,Tryz.ntmps124
  go_wp2
  go_ret
  exact ⟨rfl,rfl⟩
 ·have hd:dgi c=-1:=by unfold dgi;rw [h2]
  rw [hd]
  clear hd h2
  generalize bi c=x at *
  go_enter Tryz.func124,Tryz.ntmps124
  go_wp2
  go_ret
  exact ⟨rfl,rfl⟩
 ·have hd:dgi c=bi c - 87:=by unfold dgi;rw [h2];exact bi_sub (bi c - 87) (by omega) (by omega)
  rw [hd]
  clear hd h2
  generalize bi c=x at *
  have e1:x - 97+10=x - 87:=by omega
  go_enter Tryz.func124,Tryz.ntmps124
  go_wp2
  go_ret
  exact ⟨by rw [← e1];rfl,rfl⟩
 ·have hd:dgi c=-1:=by unfold dgi;rw [h2]
  rw [hd]
  clear hd h2
  generalize bi c=x at *
  go_enter Tryz.func124,Tryz.ntmps124
  go_wp2
  go_ret
  exact ⟨rfl,rfl⟩
theorem dgi_some {c v:UInt8} (h:dv c=some v):dgi c=bi v:=by unfold dgi;rw [h]
theorem dgi_none {c:UInt8} (h:dv c=none):dgi c=-1:=by unfold dgi;rw [h]
theorem bi_un2 {x1 x2 v1 v2:UInt8} (h1:dv x1=some v1) (h2:dv x2=some v2):IntKind.u8.wrap (16*bi v1+bi v2)=bi (un2 x1 x2):=by
 have l1:=dv_lt _ _ h1
 have l2:=dv_lt _ _ h2
 unfold un2
 rw [dvv_of h1,dvv_of h2,← byte_of]
 congr 1
 unfold bi
 omega
theorem bi_16 {x v:UInt8} (h:dv x=some v):0≤bi v∧bi v<16:=by
 have:=dv_lt _ _ h
 unfold bi
 omega
def RUPost (w:World) (cs:List UInt8) (e:Ending) (w':World):Prop :=
 ((hexOk cs=true∧∃ v,e=.returned (.tuple #[v,.bool true])∧Own w' w.heap.size v (unhexL cs))∨(hexOk cs=false∧e=.returned (.tuple #[.slice none 0 0,.bool false])))∧Below w.heap.size w w'
theorem hexOk_not {cs:List UInt8} {k:Nat} (hk:k<cs.length) {x:UInt8} (hx:cs.getD k 0=x) (h:dv x=none):hexOk cs=false:=by
 cases hh:hexOk cs with
 | false=>rfl
 | true =>
  obtain ⟨v,hv⟩:=hexOk_at hh k hk
  rw [hx,h] at hv
  cases hv
set_option maxRecDepth 100000 in
set_option maxHeartbeats 800000 in
theorem runhex_any (cs:List UInt8) (w:World) (hl:cs.length≤140737488351232):Calls Tryz.prog 89 #[.string (str cs)] w (RUPost w cs):=by
 have hsz:=str_size cs
 obtain ⟨l,hL⟩:∃ l,cs.length=l:=⟨_,rfl⟩
 rw [hL] at hsz hl
 have HL:=Lib.hid hL
 clear hL
 by_cases hev:l % 2=0
 ·obtain ⟨m,rfl⟩:∃ m,l=2*m:=⟨l / 2,by omega⟩
  have e1:((2*m:Nat):Int) % 2=0:=by omega
  have e2:((2*m:Nat):Int).tmod 2=0:=by rw [Int.tmod_eq_emod_of_nonneg (by omega)];omega
  have e3:(2*(m:Int)) % 2=0:=by omega
  have e4:(2*(m:Int)).tmod 2=0:=by rw [Int.tmod_eq_emod_of_nonneg (by omega)];omega
  have HEV:=Lib.hid hev
  clear hev
  go_enter Tryz.func89,Tryz.ntmps89
  go_wp2_with fail
  clear e1 e2 e3 e4
  go_loopw [4,5] (fun v i wr=>∃ k:Nat,k≤m∧i=.int .i64 (2*(k:Int))∧(∀ j,j<2*k→∃ v,dv (cs.getD j 0)=some v)∧Own wr w.heap.size v (unhexN cs k)∧Below w.heap.size w wr) (fun _ i _=>2*m - (intOf i).toNat)
  case atStart=>exact ⟨0,by omega,rfl,fun j hj=>by omega,Own.nil_ _ _,Below.refl _ _⟩
  case round =>
   obtain ⟨k,hk,rfl,hall,ho,hbw⟩:=hrel
   have HALL:=Lib.hid hall
   have HO:=Lib.hid ho
   have HBW:=Lib.hid hbw
   have hwz:=hbw.size
   clear hall ho hbw
   by_cases hlt:k<m
   ·have hidx1:∀ w:World,(Instr.index 9 (.string (str cs)) (.int .i64 (2*(k:Int)))).run Tryz.prog w=.ok (.int .u8 (bi (cs.getD (2*k) 0))) w:=index_str cs (2*k) (by rw [HL.out];omega)
    have hidx2:∀ w:World,(Instr.index 9 (.string (str cs)) (.int .i64 (2*(k:Int)+1))).run Tryz.prog w=.ok (.int .u8 (bi (cs.getD (2*k+1) 0))) w:=index_str cs (2*k+1) (by rw [HL.out];omega)
    have hnx:=Lib.hid (unhexN_next cs k)
    obtain ⟨x1,hx1⟩:∃ x,cs.getD (2*k) 0=x:=⟨_,rfl⟩
    obtain ⟨x2,hx2⟩:∃ x,cs.getD (2*k+1) 0=x:=⟨_,rfl⟩
    rw [hx1] at hidx1 hnx
    rw [hx2] at hidx2 hnx
    have HX1:=Lib.hid hx1
    have HX2:=Lib.hid hx2
    clear hx1 hx2
    have q1:IntKind.i64.wrap (2*(k:Int)+1)=2*(k:Int)+1:=IntWalk.i64_in _ (by omega)
    go_wp2_with fail
    go_quiet ((go_at_call 124;first | exact Calls.quiet_of_same ((digit_any _ _).mono fun _ _ h=>⟨h.1,h.2.symm⟩) | exact quiet_add_left (digit_any _ _) | exact quiet_left (digit_any _ _)))
    clear hidx1 hidx2 q1
    cases hv1:dv x1 with
    | none =>
     have g1:=dgi_none hv1
     have HN:=Lib.hid (hexOk_not (by rw [HL.out];omega) HX1.out hv1)
     clear hv1
     go_wp2_with fail
     go_ret2
     exact ⟨.inr ⟨HN.out,rfl⟩,below_drewN HBW.out _⟩
    | some v1 =>
     have g1:=dgi_some hv1
     have l1:=bi_16 hv1
     have HV1:=Lib.hid hv1
     clear hv1
     cases hv2:dv x2 with
     | none =>
      have g2:=dgi_none hv2
      have HN:=Lib.hid (hexOk_not (by rw [HL.out];omega) HX2.out hv2)
      clear hv2
      go_wp2_with fail
      go_ret2
      exact ⟨.inr ⟨HN.out,rfl⟩,below_drewN HBW.out _⟩
     | some v2 =>
      have g2:=dgi_some hv2
      have l2:=bi_16 hv2
      have HV2:=Lib.hid hv2
      have w1:IntKind.i64.wrap (16*bi v1)=16*bi v1:=IntWalk.i64_in _ (by omega)
      have w2:IntKind.i64.wrap (16*bi v1+bi v2)=16*bi v1+bi v2:=IntWalk.i64_in _ (by omega)
      have hor:=bi_un2 HV1.out HV2.out
      have hlen:(unhexN cs k).length+1≤140737488355328:=by rw [unhexN_length];omega
      clear hv2
      go_wp2_with (at_builtin;refine append_byte rfl (.tmp 33) (.tmp 39) rfl _ w.heap.size u4 (unhexN cs k) rfl (by exact HO.out) _ (un2 x1 x2) rfl rfl hlen (by exact hwz) ?_;intro v3 w3 ho3 hb3;have HO3:=Lib.hid ho3;have HB3:=Lib.hid hb3;clear ho3 hb3)
      refine ⟨⟨k+1,by omega,by congr 1,?_,?_,(below_drewN HBW.out _).trans HB3.out⟩,?_⟩
      ·intro j hj
       by_cases e1:j=2*k
       ·rw [e1,HX1.out];exact ⟨v1,HV1.out⟩
       by_cases e2:j=2*k+1
       ·rw [e2,HX2.out];exact ⟨v2,HV2.out⟩
       exact HALL.out j (by omega)
      ·rw [hnx.out];exact HO3.out
      ·simp [intOf];omega
   ·obtain rfl:k=m:=by omega
    have ho':Own wr w.heap.size u4 (unhexL cs):=by
     unfold unhexL
     rw [HL.out,show 2*k / 2=k from by omega]
     exact HO.out
    have HO':=Lib.hid ho'
    clear ho'
    go_wp2
    go_ret2
    refine ⟨.inl ⟨hexOk_of (by rw [HL.out];omega) (by rw [HL.out];exact HALL.out),u4,rfl,HO'.out⟩,HBW.out⟩
 ·have e1:((l:Int) % 2 != 0)=true:=by rw [bne_iff_ne];omega
  have e2:((l:Int) % 2==0)=false:=beq_eq_false_iff_ne.2 (by omega)
  have e3:((l:Int).tmod 2 != 0)=true:=by rw [bne_iff_ne,Int.tmod_eq_emod_of_nonneg (by omega)];omega
  have HEV:=Lib.hid hev
  clear hev
  go_enter Tryz.func89,Tryz.ntmps89
  go_wp2
  go_ret2
  refine ⟨.inr ⟨?_,rfl⟩,Below.refl _ _⟩
  cases hh:hexOk cs with
  | false=>rfl
  | true=>exact absurd (by have:=hexOk_even hh;rw [HL.out] at this;exact this) HEV.out
theorem runhex_yes (cs:List UInt8) (w:World) (h:hexOk cs=true) (hl:cs.length≤140737488351232):Calls Tryz.prog 89 #[.string (str cs)] w (UnPost w (unhexL cs)) :=
 (runhex_any cs w hl).mono fun e w' ⟨h1,h2⟩=>by
  rcases h1 with ⟨_,v,he,ho⟩ | ⟨h1,_⟩
  ·exact ⟨v,he,ho,h2⟩
  ·rw [h] at h1;cases h1
theorem runhex_no (cs:List UInt8) (w:World) (h:hexOk cs=false) (hl:cs.length≤140737488351232):Calls Tryz.prog 89 #[.string (str cs)] w fun e w'=>e=.returned (.tuple #[.slice none 0 0,.bool false])∧Below w.heap.size w w' :=
 (runhex_any cs w hl).mono fun e w' ⟨h1,h2⟩=>by
  rcases h1 with ⟨h1,_⟩ | ⟨_,he⟩
  ·rw [h] at h1;cases h1
  ·exact ⟨he,h2⟩
set_option maxHeartbeats 400000 in
theorem rvalid_any (cs:List UInt8) (t:Bool) (ht:(cs.length==64&&hexOk cs)=t) (w:World) (hl:cs.length≤140737488351232):Calls Tryz.prog 29 #[.string (str cs)] w fun e w'=>e=.returned (.bool t)∧Below w.heap.size w w':=by
 cases hx:hexOk cs with
 | false =>
  rw [hx,Bool.and_false] at ht
  subst ht
  have HX:=Lib.hid hx
  clear hx
  go_enter Tryz.func29,Tryz.ntmps29
  go_wp2_with fail
  refine (runhex_no cs _ HX.out hl).mono ?_
  rintro e w' ⟨rfl,hb⟩
  have HB:=Lib.hid hb
  clear hb
  go_wp2_with fail
  go_ret
  exact ⟨rfl,HB.out⟩
 | true =>
  rw [hx,Bool.and_true] at ht
  have HX:=Lib.hid hx
  have hev:=hexOk_even hx
  obtain ⟨m,hm⟩:∃ m,cs.length=2*m:=⟨cs.length / 2,by omega⟩
  have ht2:((m:Int)==32)=t:=by
   rw [← ht,Bool.eq_iff_iff,beq_iff_eq,beq_iff_eq,hm]
   omega
  have HM:=Lib.hid hm
  clear hx hev ht hm
  go_enter Tryz.func29,Tryz.ntmps29
  go_wp2_with fail
  refine (runhex_yes cs _ HX.out hl).mono ?_
  rintro e w' ⟨v,rfl,ho,hb⟩
  obtain ⟨A,c,hv,_⟩:=ho.sl
  rw [unhexL_length,HM.out,show 2*m / 2=m from by omega] at hv
  subst hv
  have HB:=Lib.hid hb
  clear hb ho
  go_wp2_with fail
  go_ret
  exact ⟨rfl,HB.out⟩
end Go.Proofs.YtlkolcokjmlmjaaGreat.Sh
set_option linter.unusedVariables false
set_option linter.unusedSimpArgs false
namespace Go.Proofs.YtlkolcokjmlmjaaGreat.Tx
open Go.RowKit Go.Maps Go.Proofs.YtlkolcokjmlmjaaGreat.Sh
def RAt (F:Nat→Prop) (w:World) (d:Nat) (c:CSt) (i:Nat) (M:Nat→Prop):Prop:=∃ s,RefAt F w d s M∧TieG c s i
def RPost (F M:Nat→Prop) (w:World) (d:Nat) (c:CSt) (i:Nat) (w':World):Prop:=∃ s,FsPost F M w d s w'∧TieG c s i
section
variable {F M M1:Nat→Prop} {w w1 w2:World} {d i j:Nat} {c c':CSt}
theorem RAt.below (h:RAt F w d c i M) (hb:Below w.heap.size w w1):RAt F w1 d c i M:=by
 obtain ⟨s,h1,h2⟩:=h
 exact ⟨s,h1.below hb,h2⟩
theorem RAt.lt (h:RAt F w d c i M) (k:Nat) (hk:M k):k<w.heap.size:=by
 obtain ⟨s,h1,h2⟩:=h
 exact h1.mlt k hk
theorem RPost.refl (h:RAt F w d c i M):RPost F M w d c i w:=by
 obtain ⟨s,h1,h2⟩:=h
 exact ⟨s,FsPost.refl h1,h2⟩
theorem RPost.upto (h:RPost F M w d c i w1) (hij:i≤j):RPost F M w d c j w1:=by
 obtain ⟨s,h1,h2⟩:=h
 exact ⟨s,h1,h2.upto hij⟩
theorem RPost.of_below (hb:Below w.heap.size w w1) (h:RPost F M w1 d c i w2):RPost F M w d c i w2:=by
 obtain ⟨s,h1,h2⟩:=h
 exact ⟨s,FsPost.of_below hb h1,h2⟩
theorem RPost.then_below (h:RPost F M w d c i w1) (hb:Below w1.heap.size w1 w2):RPost F M w d c i w2:=by
 obtain ⟨s,h1,h2⟩:=h
 exact ⟨s,h1.then_below hb,h2⟩
theorem RPost.open_ (h:RPost F M w d c i w1):∃ M1,RAt (grow F w w1 M1) w1 d c i M1∧Only M w w1∧∀ k,M1 k→M k∨w.heap.size≤k:=by
 obtain ⟨s,⟨M1,h1,h2,h3⟩,h4⟩:=h
 exact ⟨M1,⟨s,h1,h4⟩,h2,h3⟩
theorem RPost.trans (h01:Only M w w1) (hM:∀ k,M1 k→M k∨w.heap.size≤k) (h:RPost (grow F w w1 M1) M1 w1 d c j w2):RPost F M w d c j w2:=by
 obtain ⟨s,h1,h2⟩:=h
 exact ⟨s,FsPost.trans h01 hM h1,h2⟩
theorem rrem_any (p : List UInt8) (h : RPost F M w d c i w1) (hi : i ≤ 390000) (hp : p.length ≤ 900000) :
  Calls Tryz.prog 37 #[.pointer (some ⟨d,0,none⟩),.string (Tx.str p)] w1 fun e w'=>e=.returned (.int .i64 (remE c p))∧RPost F M w d (remC c p) (i+1) w':=by
 obtain ⟨M1,⟨s,h1,h2⟩,h3,h4⟩:=h.open_
 obtain ⟨N,hN⟩:=h2.ready hi
 obtain ⟨g1,g2⟩:=h2.rem hi p
 refine (rremove_any _ M1 d s N p w1 h1 hN (by omega)).mono ?_
 rintro e w' ⟨rfl,hp'⟩
 exact ⟨by rw [g1],_,FsPost.trans h3 h4 hp',g2⟩
theorem rsyn_any (h : RPost F M w d c i w1) (hi : i ≤ 390000) :
  Calls Tryz.prog 36 #[.pointer (some ⟨d,0,none⟩)] w1 fun e w'=>e=.returned (.int .i64 (bgE c))∧RPost F M w d (synC c) (i+1) w':=by
 obtain ⟨M1,⟨s,h1,h2⟩,h3,h4⟩:=h.open_
 obtain ⟨N,hN⟩:=h2.ready hi
 obtain ⟨g1,g2⟩:=h2.syn hi
 refine (rsync_any _ M1 d s N w1 h1 hN).mono ?_
 rintro e w' ⟨rfl,hp'⟩
 exact ⟨by rw [g1],_,FsPost.trans h3 h4 hp',g2⟩
theorem rmov_any (fr tt : List UInt8) (h : RPost F M w d c i w1) (hi : i ≤ 390000) (hf : fr.length ≤ 900000) (ht : tt.length ≤ 900000) :
  Calls Tryz.prog 38 #[.pointer (some ⟨d,0,none⟩),.string (Tx.str fr),.string (Tx.str tt)] w1 fun e w'=>e=.returned (.int .i64 (movE c fr tt false))∧RPost F M w d (movC c fr tt false) (i+1) w':=by
 obtain ⟨M1,⟨s,h1,h2⟩,h3,h4⟩:=h.open_
 obtain ⟨N,hN⟩:=h2.ready hi
 obtain ⟨g1,g2⟩:=h2.mov hi fr tt false
 refine (rmove_any' _ M1 d s N fr tt w1 h1 hN (by omega) (by omega)).mono ?_
 rintro e w' ⟨rfl,hp'⟩
 exact ⟨by rw [g1],_,FsPost.trans h3 h4 hp',g2⟩
theorem rcrt_any (p : List UInt8) (mode : Int) (dv : Value) (data : List UInt8) (G : Nat → Prop) (h : RAt F w d c i M) (hi : i ≤ 390000) (hp : p.length ≤ 900000) (hdv : By G w dv data) (hG : ∀ k, G k → ¬ M k) :
  Calls Tryz.prog 34 #[.pointer (some ⟨d,0,none⟩),.string (Tx.str p),.int .i64 mode,dv] w fun e w'=>e=.returned (.int .i64 (crtE c p mode data true))∧RPost F M w d (crtC c p mode data true) (i+1) w':=by
 obtain ⟨s,h1,h2⟩:=h
 obtain ⟨N,hN⟩:=h2.ready hi
 obtain ⟨g1,g2⟩:=h2.crt hi p mode data true
 refine (rcreate_any F M d s N p mode dv data G w h1 hN hdv hG (by omega)).mono ?_
 rintro e w' ⟨rfl,hp'⟩
 exact ⟨by rw [g1],_,hp',g2⟩
theorem rred_any (p : List UInt8) (h : RAt F w d c i M) (hi : i ≤ 390000) (hp : p.length ≤ 900000) :
  Calls Tryz.prog 28 #[.pointer (some ⟨d,0,none⟩),.string (Tx.str p)] w fun e w'=>∃ A dc G,e=.returned (.tuple #[.agg #[.int .i64 (redF c p).mode,.slice A (redF c p).data.length dc,.int .i64 (redF c p).time],.int .i64 (redE c p)])∧RPost F M w d (bgC c).c (i+1) w'∧By G w' (.slice A (redF c p).data.length dc) (redF c p).data∧(redF c p).data.length≤dc:=by
 obtain ⟨s,h1,h2⟩:=h
 obtain ⟨N,hN⟩:=h2.ready hi
 obtain ⟨g1,g2⟩:=h2.red hi p
 refine (rread_any F M d s N p w h1 hN (by omega)).mono ?_
 rintro e w' ⟨u,v,M1,rfl,rfl,hat,hon,hsub,hby⟩
 rw [← g1,← g2]
 rw [← g2] at hby
 obtain ⟨A,dc,rfl,hl,_⟩:=hby.slice
 exact ⟨A,dc,_,rfl,⟨_,⟨M1,hat,hon,hsub⟩,h2.bg hi⟩,hby,hl⟩
theorem hin_same (d:List UInt8):hinB d=(d.length==65&&d[64]?==some 10&&validB (d.take 64)):=by
 rw [Bool.eq_iff_iff]
 unfold hinB
 simp only [Bool.and_eq_true,beq_iff_eq,List.isSuffixOf_iff_suffix]
 constructor
 ·rintro ⟨⟨t,rfl⟩,hv⟩
  have h1:=valid_len hv
  simp only [List.length_append,List.length_singleton,List.length_take] at h1
  have h2:t.length=64:=by omega
  refine ⟨⟨by simp [h2],by rw [List.getElem?_append_right (by omega),h2];rfl⟩,?_⟩
  have:(t++[10]).length - 1=64:=by simp [h2]
  rwa [this] at hv
 ·rintro ⟨⟨h1,h2⟩,h3⟩
  refine ⟨⟨d.take 64,?_⟩,by rw [h1];exact h3⟩
  have h4:d.take (64+1)=d:=List.take_of_length_le (by omega)
  rw [List.take_add_one,h2] at h4
  exact h4
end
theorem bi10:bi 10=10:=by unfold bi;rfl
theorem rstr_same {x y:List UInt8} (h:x=y):((Tx.str x).toList==(Tx.str y).toList)=true:=by rw [h];exact beq_self_eq_true _
theorem rstr_nsame {x y:List UInt8} (h:x≠y):((Tx.str x).toList==(Tx.str y).toList)=false:=by
 rw [str_toList,str_toList]
 exact list_other h
theorem rplace_cat (n:List UInt8):(⟨#[115,47,114,47]⟩:ByteArray)++str n=str (refP n):=str_append [115,47,114,47] n
theorem rlock_cat (n:List UInt8):(⟨#[115,47,108,47]⟩:ByteArray)++str n=str (lockP n):=str_append [115,47,108,47] n
set_option maxRecDepth 100000 in
set_option maxHeartbeats 3200000 in
theorem rgetr_any {F M : Nat → Prop} {w : World} {d i : Nat} {c : CSt} (n : List UInt8) (h : RAt F w d c i M) (hi : i ≤ 389000) (hn : n.length ≤ 800000) :
  Calls Tryz.prog 9 #[.pointer (some ⟨d,0,none⟩),.string (Tx.str n)] w fun e w'=>e=.returned (.tuple #[.string (Tx.str (getV c n)),.int .i64 (getE c n)])∧RPost F M w d (getC c n) (i+1) w':=by
 have H:=Lib.hid h
 obtain ⟨t,ht⟩:∃ t,nameB n=t:=⟨_,rfl⟩
 have HT:=Lib.hid ht
 have hcat:¬ 9223372036854775807<4+(Tx.str n).size:=by rw [Tx.str_size];omega
 have HSH:Hid ((redF c (refP n)).data.length≤20000):=by
  obtain ⟨s,_,h2⟩:=h
  exact red_short (h2.go.ready (by omega)) (refP n)
 clear h ht
 go_enter Tryz.func9,Tryz.ntmps9
 go_wp2_with fail
 refine (rname_any n w (by omega)).mono ?_
 rintro e w1 ⟨rfl,rfl⟩
 rw [HT.out]
 cases t with
 | false =>
  have HE:=Lib.hid (get_noname (c:=c) HT.out)
  go_wp2_with fail
  go_ret2
  exact ⟨by rw [HE.out.1,HE.out.2.1];rfl,by rw [HE.out.2.2];exact (RPost.refl H.out).upto (by omega)⟩
 | true =>
  have HC:Hid (getC c n=(bgC c).c):=by unfold Hid getC;rw [if_neg (by rw [HT.out];decide)]
  have HG:Hid (getE c n=if redE c (refP n)≠0 then redE c (refP n) else if hinB (redF c (refP n)).data=false then 4 else 0):=by unfold Hid getE;rw [if_neg (by rw [HT.out];decide)]
  go_wp2_with fail
  rw [rplace_cat]
  refine (rred_any (refP n) H.out (by omega) (by rw [refP_len];omega)).mono ?_
  rintro e w2 ⟨dA,dc,G,rfl,hp,hby,hdc⟩
  obtain ⟨⟨md,dt,tm⟩,hF⟩:∃ f,redF c (refP n)=f:=⟨_,rfl⟩
  have HF:=Lib.hid hF
  rw [hF] at hby hdc ⊢
  dsimp only at hby hdc ⊢
  obtain ⟨dl,hdl⟩:∃ m,dt.length=m:=⟨_,rfl⟩
  have HDL:=Lib.hid hdl
  rw [hdl] at hby hdc ⊢
  obtain ⟨re,hre⟩:∃ k,redE c (refP n)=k:=⟨_,rfl⟩
  have HRE:=Lib.hid hre
  rw [hre]
  have HP:=Lib.hid hp
  have HBY:=Lib.hid hby
  have HDC:=Lib.hid hdc
  clear hp hF hdl hre hby hdc
  go_upto_region 4 with (fail)
  obtain ⟨w3,hw3⟩:∃ W,W=w2.alloc (.cells #[.int .i64 md,.slice dA dl dc,.int .i64 tm] 78):=⟨_,rfl⟩
  obtain ⟨g,hg⟩:∃ k,k=w2.heap.size:=⟨_,rfl⟩
  rw [← hw3]
  try rw [← hg]
  have HB3:Hid (Below w2.heap.size w2 w3):=by unfold Hid;rw [hw3];exact (Below.refl _ _).alloc (Nat.le_refl _) _
  have HK:Hid (Blk w3 g 78 #[.int .i64 md,.slice dA dl dc,.int .i64 tm]):=by unfold Hid;rw [hw3,hg];exact heap_alloc_new w2 _
  have HBY3:Hid (By (fun k=>G k∧k<w2.heap.size) w3 (.slice dA dl dc) dt):=HBY.out.bound.only (Only.of_below (M:=fun _=>False) HB3.out) (fun _ _=>id)
  have HP3:Hid (RPost F M w d (getC c n) (i+1) w3):=by rw [HC.out];exact HP.out.then_below HB3.out
  have k1:=HK.out.cell 1
  clear hw3 hg
  by_cases h0:re=0
  ·subst h0
   have HE0:Hid (getE c n=if hinB dt=false then 4 else 0):=by unfold Hid;rw [HG.out,if_neg (by rw [HRE.out];simp),HF.out]
   have HBAD:Hid (hinB dt=false→getE c n=4∧getV c n=[]):=fun hb=>by
    have h1:getE c n=4:=by rw [HE0.out,if_pos hb]
    exact ⟨h1,by unfold getV;rw [h1];rfl⟩
   by_cases hl:dl=65
   ·subst hl
    obtain ⟨x,hx⟩:∃ x,dt[64]?=some x:=⟨_,List.getElem?_eq_getElem (by rw [HDL.out];decide)⟩
    obtain ⟨A',c',he,hlc,hcm,hR⟩:=HBY3.out.slv.len
    injection he with e1 e2 e3
    subst e1 e3
    obtain ⟨ad,e1,kx⟩:=reads_at hR 64 (bv x) (by rw [List.getElem?_map,hx];rfl)
    subst e1
    have kx2:w3.cell? ⟨ad.block,ad.off+64,none⟩=some (.int .u8 (bi x)):=by
     have h:=add_field ad 0 64 (by decide)
     rw [Nat.zero_add,show ad.add 0=ad by simp [Addr.add]] at h
     rw [← h]
     exact kx
    have HX:=Lib.hid hx
    have fr:∀ W:World,(Instr.slice 32 (.slice (some ad) 65 dc) none (some (.int .i64 64)) none).run Tryz.prog W=.ok (.slice (some ad) 64 dc) W:=fun W=>bytes_front (some ad) 65 dc 64 (by have:=HDC.out;omega) W
    have kd:(convert 32 9 (.slice (some ad) 64 dc)).run Tryz.prog w3=.ok (.string (Tx.str (dt.take 64))) w3:=conv_str w3 (some ad) (dt.take 64) 64 dc (by rw [List.length_take,HDL.out];rfl) (HBY3.out.take 64 (by decide)).slv
    clear hx hlc hcm hR e2
    by_cases hq:x=10
    ·subst hq
     have kx3:w3.cell? ⟨ad.block,ad.off+64,none⟩=some (.int .u8 10):=by rw [kx2,bi10]
     clear kx kx2
     obtain ⟨v,hv⟩:∃ v,validB (dt.take 64)=v:=⟨_,rfl⟩
     have HV:=Lib.hid hv
     clear hv
     go_wp2_with fail
     refine (Sh.rvalid_any (dt.take 64) v HV.out w3 (by rw [List.length_take];omega)).mono ?_
     rintro e w4 ⟨rfl,hb4⟩
     have HB4:=Lib.hid hb4
     have k2:=(HK.out.below hb4 HK.out.lt).cell 1
     have kd4:(convert 32 9 (.slice (some ad) 64 dc)).run Tryz.prog w4=.ok (.string (Tx.str (dt.take 64))) w4:=conv_str w4 (some ad) (dt.take 64) 64 dc (by rw [List.length_take,HDL.out];rfl) ((HBY3.out.take 64 (by decide)).only (Only.of_below (M:=fun _=>False) hb4) (fun _ _=>id)).slv
     clear hb4 k1
     cases v with
     | false =>
      have HE:=Lib.hid (HBAD.out (by rw [hin_same,HV.out,Bool.and_false]))
      go_wp2_with fail
      go_ret2
      exact ⟨by rw [HE.out.1,HE.out.2];rfl,HP3.out.then_below HB4.out⟩
     | true =>
      have HE:Hid (getE c n=0∧getV c n=dt.take 64):=by
       have hb:hinB dt=true:=by rw [hin_same,HV.out,HX.out,HDL.out];rfl
       have h1:getE c n=0:=by rw [HE0.out,if_neg (by rw [hb];decide)]
       refine ⟨h1,?_⟩
       unfold getV hinV
       rw [if_pos h1,HF.out]
       dsimp only
       rw [if_pos hb,HDL.out]
      go_wp2_with fail
      go_ret2
      exact ⟨by rw [HE.out.1,HE.out.2];rfl,HP3.out.then_below HB4.out⟩
    ·have HE:=Lib.hid (HBAD.out (by rw [hin_same,HX.out];simp [hq]))
     have y0:¬ (bi x=10):=fun e=>hq (bi_inj (b:=10) (by rw [e,bi10]))
     have y1:(bi x != 10)=true:=by simpa using y0
     have y2:(bi x==10)=false:=by simpa using y0
     clear hq kx
     go_wp2_with fail
     go_ret2
     exact ⟨by rw [HE.out.1,HE.out.2];rfl,HP3.out⟩
   ·have HE:=Lib.hid (HBAD.out (by rw [hin_same,HDL.out];simp [hl]))
    have y0:((dl:Int) != 65)=true:=by simp;omega
    have y1:((dl:Int)==65)=false:=by simp;omega
    clear hl
    go_wp2_with fail
    go_ret2
    exact ⟨by rw [HE.out.1,HE.out.2];rfl,HP3.out⟩
  ·have y0:(re != 0)=true:=by simpa using h0
   have y1:(re==0)=false:=by rw [beq_eq_false_iff_ne];exact h0
   have HE:Hid (getE c n=re∧getV c n=[]):=by
    have h1:getE c n=re:=by rw [HG.out,HRE.out,if_pos h0]
    exact ⟨h1,by unfold getV;rw [h1,if_neg h0]⟩
   clear h0
   go_wp2_with fail
   go_ret2
   exact ⟨by rw [HE.out.1,HE.out.2];rfl,HP3.out⟩
set_option maxRecDepth 100000 in
set_option maxHeartbeats 3200000 in
theorem rexp_any {F M : Nat → Prop} {w : World} {d i : Nat} {c : CSt} (n old : List UInt8) (h : RAt F w d c i M) (hi : i ≤ 389000) (hn : n.length ≤ 800000) (hol : old.length ≤ 800000) :
  Calls Tryz.prog 35 #[.pointer (some ⟨d,0,none⟩),.string (Tx.str n),.string (Tx.str old)] w fun e w'=>e=.returned (.int .i64 (expE c n old))∧RPost F M w d (bgC c).c (i+1) w':=by
 have H:=Lib.hid h
 have hcat0:¬ 9223372036854775807<4+(Tx.str n).size:=by rw [Tx.str_size];omega
 have hb:¬ 9223372036854775807<(str old).size+1:=by rw [str_size];omega
 have hcat:=end_cat old
 clear h
 go_enter Tryz.func35,Tryz.ntmps35
 go_wp2_with fail
 rw [rplace_cat]
 refine (rred_any (refP n) H.out (by omega) (by rw [refP_len];omega)).mono ?_
 rintro e w2 ⟨dA,dc,G,rfl,hp,hby,hdc⟩
 obtain ⟨⟨md,dt,tm⟩,hF⟩:∃ f,redF c (refP n)=f:=⟨_,rfl⟩
 have HF:=Lib.hid hF
 rw [hF] at hby hdc ⊢
 dsimp only at hby hdc ⊢
 obtain ⟨dl,hdl⟩:∃ m,dt.length=m:=⟨_,rfl⟩
 have HDL:=Lib.hid hdl
 rw [hdl] at hby hdc ⊢
 obtain ⟨re,hre⟩:∃ k,redE c (refP n)=k:=⟨_,rfl⟩
 have HRE:=Lib.hid hre
 rw [hre]
 have HP:=Lib.hid hp
 have HBY:=Lib.hid hby
 clear hp hF hdl hre hby hdc
 go_upto_region 2 with (fail)
 obtain ⟨w3,hw3⟩:∃ W,W=w2.alloc (.cells #[.int .i64 md,.slice dA dl dc,.int .i64 tm] 78):=⟨_,rfl⟩
 obtain ⟨g,hg⟩:∃ k,k=w2.heap.size:=⟨_,rfl⟩
 rw [← hw3]
 try rw [← hg]
 have HB3:Hid (Below w2.heap.size w2 w3):=by unfold Hid;rw [hw3];exact (Below.refl _ _).alloc (Nat.le_refl _) _
 have HK:Hid (Blk w3 g 78 #[.int .i64 md,.slice dA dl dc,.int .i64 tm]):=by unfold Hid;rw [hw3,hg];exact heap_alloc_new w2 _
 have HBY3:Hid (By (fun k=>G k∧k<w2.heap.size) w3 (.slice dA dl dc) dt):=HBY.out.bound.only (Only.of_below (M:=fun _=>False) HB3.out) (fun _ _=>id)
 have HP3:Hid (RPost F M w d (bgC c).c (i+1) w3):=HP.out.then_below HB3.out
 have k1:=HK.out.cell 1
 have kd:(convert 32 9 (.slice dA dl dc)).run Tryz.prog w3=.ok (.string (Tx.str dt)) w3:=conv_str w3 dA dt dl dc HDL.out HBY3.out.slv
 clear hw3 hg
 by_cases h7:re=7
 ·subst h7
  by_cases ho:old=[]
  ·have HE:Hid (expE c n old=0):=by unfold Hid expE;rw [if_pos HRE.out,if_pos ho]
   obtain ⟨z2,z3⟩:=str_nil ho
   clear ho
   go_wp2_with fail
   go_ret
   exact ⟨by rw [HE.out];rfl,HP3.out⟩
  ·have HE:Hid (expE c n old=13):=by unfold Hid expE;rw [if_pos HRE.out,if_neg ho]
   obtain ⟨z2,z3⟩:=str_some ho
   clear ho
   go_wp2_with fail
   go_ret
   exact ⟨by rw [HE.out];rfl,HP3.out⟩
 ·have e7:(re==7)=false:=by rw [beq_eq_false_iff_ne];exact h7
  by_cases h0:re=0
  ·subst h0
   by_cases ho:old=[]
   ·have HE:Hid (expE c n old=13):=by unfold Hid expE;rw [if_neg (by rw [HRE.out];decide),if_neg (by rw [HRE.out];decide),if_pos (.inl ho)]
    obtain ⟨z2,z3⟩:=str_nil ho
    clear ho h7 e7
    go_wp2_with fail
    go_ret
    exact ⟨by rw [HE.out];rfl,HP3.out⟩
   ·obtain ⟨z2,z3⟩:=str_some ho
    by_cases hdo:dt=old++[10]
    ·have HE:Hid (expE c n old=0):=by unfold Hid expE;rw [if_neg (by rw [HRE.out];decide),if_neg (by rw [HRE.out];decide),if_neg];rintro (x | x);exact ho x;rw [HF.out] at x;exact x hdo
     have y1:=rstr_same hdo
     clear ho h7 e7 hdo
     go_wp2_with fail
     go_ret
     exact ⟨by rw [HE.out];rfl,HP3.out⟩
    ·have HE:Hid (expE c n old=13):=by unfold Hid expE;rw [if_neg (by rw [HRE.out];decide),if_neg (by rw [HRE.out];decide),if_pos];right;rw [HF.out];exact hdo
     have y1:=rstr_nsame hdo
     clear ho h7 e7 hdo
     go_wp2_with fail
     go_ret
     exact ⟨by rw [HE.out];rfl,HP3.out⟩
  ·have HE:Hid (expE c n old=re):=by unfold Hid expE;rw [if_neg (by rw [HRE.out];exact h7),HRE.out,if_pos h0]
   have e0:(re != 0)=true:=by simpa using h0
   have e1:(re==0)=false:=by rw [beq_eq_false_iff_ne];exact h0
   clear h0 h7
   go_wp2_with fail
   go_ret
   exact ⟨by rw [HE.out];rfl,HP3.out⟩
end Go.Proofs.YtlkolcokjmlmjaaGreat.Tx
