/- Texts put together: VFx15, VFx16, VFx17, VFx18. -/
import Derived.Test.YtlkolcokjmlmjaaGreatQv11
namespace Go.Proofs.YtlkolcokjmlmjaaGreat.Tx
open Go.RowKit Go.Proofs.YtlkolcokjmlmjaaGreat.Sh
def writeE (st:FSM) (p:List UInt8) (mode:Int) (data:List UInt8) (only:Bool):Int:=if beginE st=0 then putE (beginM st).st p mode data only (beginM st).full (beginM st).st.room else beginE st
def writeM (st:FSM) (p:List UInt8) (mode:Int) (data:List UInt8) (only:Bool):FSM:=if beginE st=0 then putM (beginM st).st p mode data only (beginM st).full (beginM st).st.room else (beginM st).st
def removeE (st:FSM) (p:List UInt8):Int:=if beginE st=0 then dropE (beginM st).st p else beginE st
def removeM (st:FSM) (p:List UInt8):FSM:=if beginE st=0 then dropM (beginM st).st p else (beginM st).st
def syncM (st:FSM):FSM:=if beginE st=0 then safeM (beginM st).st else (beginM st).st
set_option maxRecDepth 100000 in
set_option maxHeartbeats 3200000 in
theorem rcreate_any (F M : Nat → Prop) (b : Nat) (st : FSM) (N : Nat) (p : List UInt8) (mode : Int) (dv : Value) (data : List UInt8) (G : Nat → Prop) (w : World) (h : RefAt F w b st M) (hr : Ready st N) (hdv : By G w dv data) (hG : ∀ k, G k → ¬ M k) (hp : p.length ≤ 1000000) :
  Calls Tryz.prog 34 #[.pointer (some ⟨b,0,none⟩),.string (str p),.int .i64 mode,dv] w fun e w'=>e=.returned (.int .i64 (writeE st p mode data true))∧FsPost F M w b (writeM st p mode data true) w':=by
 have H:=Lib.hid h
 have HR:=Lib.hid hr
 have HS:=Lib.hid hr.small
 clear h hr
 obtain ⟨be,hbe⟩:∃ be,beginE st=be:=⟨_,rfl⟩
 have HBE:=Lib.hid hbe
 clear hbe
 go_enter Tryz.func34,Tryz.ntmps34
 go_wp2_with fail
 refine (rbegin_any F M b st N _ H.out HR.out.fits (by have:=HR.out.big;omega) HR.out.calls HR.out.paths).mono ?_
 rintro e w1 ⟨rfl,hpost⟩
 rw [HBE.out]
 obtain ⟨s,hs⟩:∃ s,(beginM st).st=s:=⟨_,rfl⟩
 have HSS:=Lib.hid hs
 rw [hs] at hpost
 have HP1:=Lib.hid hpost
 obtain ⟨M1,hat,hon,hsub⟩:=hpost
 have HSM:Hid (Small s):=by rw [← hs];exact HS.out
 have HAT:=Lib.hid hat
 have HON:=Lib.hid hon
 have HSUB:=Lib.hid hsub
 clear hat hon hsub hs
 obtain ⟨fu,hfu⟩:∃ fu,(beginM st).full=fu:=⟨_,rfl⟩
 have HFU:=Lib.hid hfu
 rw [hfu]
 clear hfu
 have HDV:=Lib.hid (hdv.only HON.out hG).slv
 clear hdv hG
 obtain ⟨x,hX,_⟩:=HAT.out
 have c0:w1.cell? ⟨b,0,none⟩=some (.int .i64 s.room):=hX.blk.cell 0
 clear hX
 by_cases hb0:be=0
 ·subst hb0
  have HE:Hid (writeE st p mode data true=putE s p mode data true fu s.room∧writeM st p mode data true=putM s p mode data true fu s.room):=⟨by unfold writeE;rw [if_pos HBE.out,HSS.out,HFU.out],by unfold writeM;rw [if_pos HBE.out,HSS.out,HFU.out]⟩
  go_wp2_with fail
  refine (rput_any _ M1 b s p mode dv data true fu s.room _ HAT.out HDV.out hp HSM.out.nrow HSM.out.used HSM.out.time (by have:=HSM.out.now;omega) (by have:=HSM.out.pending;omega)).mono ?_
  rintro e w2 ⟨rfl,hpost⟩
  have HP2:=Lib.hid (FsPost.trans HON.out HSUB.out hpost)
  clear hpost
  go_wp2_with fail
  go_ret
  exact ⟨by rw [HE.out.1];rfl,by rw [HE.out.2];exact HP2.out⟩
 ·have e1:(be==0)=false:=by rw [beq_eq_false_iff_ne];exact hb0
  have HE:Hid (writeE st p mode data true=be∧writeM st p mode data true=s):=⟨by unfold writeE;rw [HBE.out,if_neg hb0],by unfold writeM;rw [HBE.out,if_neg hb0];exact HSS.out⟩
  clear hb0
  go_wp2_with fail
  go_ret
  exact ⟨by rw [HE.out.1];rfl,by rw [HE.out.2];exact HP1.out⟩
set_option maxRecDepth 100000 in
set_option maxHeartbeats 3200000 in
theorem rwrite_any (F M : Nat → Prop) (b : Nat) (st : FSM) (N : Nat) (p : List UInt8) (mode : Int) (dv : Value) (data : List UInt8) (G : Nat → Prop) (w : World) (h : RefAt F w b st M) (hr : Ready st N) (hdv : By G w dv data) (hG : ∀ k, G k → ¬ M k) (hp : p.length ≤ 1000000) :
  Calls Tryz.prog 48 #[.pointer (some ⟨b,0,none⟩),.string (str p),.int .i64 mode,dv] w fun e w'=>e=.returned (.int .i64 (writeE st p mode data false))∧FsPost F M w b (writeM st p mode data false) w':=by
 have H:=Lib.hid h
 have HR:=Lib.hid hr
 have HS:=Lib.hid hr.small
 clear h hr
 obtain ⟨be,hbe⟩:∃ be,beginE st=be:=⟨_,rfl⟩
 have HBE:=Lib.hid hbe
 clear hbe
 go_enter Tryz.func48,Tryz.ntmps48
 go_wp2_with fail
 refine (rbegin_any F M b st N _ H.out HR.out.fits (by have:=HR.out.big;omega) HR.out.calls HR.out.paths).mono ?_
 rintro e w1 ⟨rfl,hpost⟩
 rw [HBE.out]
 obtain ⟨s,hs⟩:∃ s,(beginM st).st=s:=⟨_,rfl⟩
 have HSS:=Lib.hid hs
 rw [hs] at hpost
 have HP1:=Lib.hid hpost
 obtain ⟨M1,hat,hon,hsub⟩:=hpost
 have HSM:Hid (Small s):=by rw [← hs];exact HS.out
 have HAT:=Lib.hid hat
 have HON:=Lib.hid hon
 have HSUB:=Lib.hid hsub
 clear hat hon hsub hs
 obtain ⟨fu,hfu⟩:∃ fu,(beginM st).full=fu:=⟨_,rfl⟩
 have HFU:=Lib.hid hfu
 rw [hfu]
 clear hfu
 have HDV:=Lib.hid (hdv.only HON.out hG).slv
 clear hdv hG
 obtain ⟨x,hX,_⟩:=HAT.out
 have c0:w1.cell? ⟨b,0,none⟩=some (.int .i64 s.room):=hX.blk.cell 0
 clear hX
 by_cases hb0:be=0
 ·subst hb0
  have HE:Hid (writeE st p mode data false=putE s p mode data false fu s.room∧writeM st p mode data false=putM s p mode data false fu s.room):=⟨by unfold writeE;rw [if_pos HBE.out,HSS.out,HFU.out],by unfold writeM;rw [if_pos HBE.out,HSS.out,HFU.out]⟩
  go_wp2_with fail
  refine (rput_any _ M1 b s p mode dv data false fu s.room _ HAT.out HDV.out hp HSM.out.nrow HSM.out.used HSM.out.time (by have:=HSM.out.now;omega) (by have:=HSM.out.pending;omega)).mono ?_
  rintro e w2 ⟨rfl,hpost⟩
  have HP2:=Lib.hid (FsPost.trans HON.out HSUB.out hpost)
  clear hpost
  go_wp2_with fail
  go_ret
  exact ⟨by rw [HE.out.1];rfl,by rw [HE.out.2];exact HP2.out⟩
 ·have e1:(be==0)=false:=by rw [beq_eq_false_iff_ne];exact hb0
  have HE:Hid (writeE st p mode data false=be∧writeM st p mode data false=s):=⟨by unfold writeE;rw [HBE.out,if_neg hb0],by unfold writeM;rw [HBE.out,if_neg hb0];exact HSS.out⟩
  clear hb0
  go_wp2_with fail
  go_ret
  exact ⟨by rw [HE.out.1];rfl,by rw [HE.out.2];exact HP1.out⟩
set_option maxRecDepth 100000 in
set_option maxHeartbeats 3200000 in
theorem rremove_any (F M : Nat → Prop) (b : Nat) (st : FSM) (N : Nat) (p : List UInt8) (w : World) (h : RefAt F w b st M) (hr : Ready st N) (hp : p.length ≤ 1000000) :
  Calls Tryz.prog 37 #[.pointer (some ⟨b,0,none⟩),.string (str p)] w fun e w'=>e=.returned (.int .i64 (removeE st p))∧FsPost F M w b (removeM st p) w':=by
 have H:=Lib.hid h
 have HR:=Lib.hid hr
 have HS:=Lib.hid hr.small
 clear h hr
 obtain ⟨be,hbe⟩:∃ be,beginE st=be:=⟨_,rfl⟩
 have HBE:=Lib.hid hbe
 clear hbe
 go_enter Tryz.func37,Tryz.ntmps37
 go_wp2_with fail
 refine (rbegin_any F M b st N _ H.out HR.out.fits (by have:=HR.out.big;omega) HR.out.calls HR.out.paths).mono ?_
 rintro e w1 ⟨rfl,hpost⟩
 rw [HBE.out]
 obtain ⟨s,hs⟩:∃ s,(beginM st).st=s:=⟨_,rfl⟩
 have HSS:=Lib.hid hs
 rw [hs] at hpost
 have HP1:=Lib.hid hpost
 obtain ⟨M1,hat,hon,hsub⟩:=hpost
 have HSM:Hid (Small s):=by rw [← hs];exact HS.out
 have HAT:=Lib.hid hat
 have HON:=Lib.hid hon
 have HSUB:=Lib.hid hsub
 clear hat hon hsub hs
 obtain ⟨fu,hfu⟩:∃ fu,(beginM st).full=fu:=⟨_,rfl⟩
 have HFU:=Lib.hid hfu
 rw [hfu]
 clear hfu
 by_cases hb0:be=0
 ·subst hb0
  have HE:Hid (removeE st p=dropE s p∧removeM st p=dropM s p):=⟨by unfold removeE;rw [if_pos HBE.out,HSS.out],by unfold removeM;rw [if_pos HBE.out,HSS.out]⟩
  go_wp2_with fail
  refine (rdrop_any _ M1 b s p _ HAT.out hp HSM.out.time (by have:=HSM.out.now;omega) (by have:=HSM.out.pending;omega)).mono ?_
  rintro e w2 ⟨rfl,hpost⟩
  have HP2:=Lib.hid (FsPost.trans HON.out HSUB.out hpost)
  clear hpost
  go_wp2_with fail
  go_ret
  exact ⟨by rw [HE.out.1];rfl,by rw [HE.out.2];exact HP2.out⟩
 ·have e1:(be==0)=false:=by rw [beq_eq_false_iff_ne];exact hb0
  have HE:Hid (removeE st p=be∧removeM st p=s):=⟨by unfold removeE;rw [HBE.out,if_neg hb0],by unfold removeM;rw [HBE.out,if_neg hb0];exact HSS.out⟩
  clear hb0
  go_wp2_with fail
  go_ret
  exact ⟨by rw [HE.out.1];rfl,by rw [HE.out.2];exact HP1.out⟩
set_option maxRecDepth 100000 in
set_option maxHeartbeats 3200000 in
theorem rsync_any (F M : Nat → Prop) (b : Nat) (st : FSM) (N : Nat) (w : World) (h : RefAt F w b st M) (hr : Ready st N) :
  Calls Tryz.prog 36 #[.pointer (some ⟨b,0,none⟩)] w fun e w'=>e=.returned (.int .i64 (beginE st))∧FsPost F M w b (syncM st) w':=by
 have H:=Lib.hid h
 have HR:=Lib.hid hr
 have HS:=Lib.hid hr.small
 clear h hr
 obtain ⟨be,hbe⟩:∃ be,beginE st=be:=⟨_,rfl⟩
 have HBE:=Lib.hid hbe
 clear hbe
 go_enter Tryz.func36,Tryz.ntmps36
 go_wp2_with fail
 refine (rbegin_any F M b st N _ H.out HR.out.fits (by have:=HR.out.big;omega) HR.out.calls HR.out.paths).mono ?_
 rintro e w1 ⟨rfl,hpost⟩
 rw [HBE.out]
 obtain ⟨s,hs⟩:∃ s,(beginM st).st=s:=⟨_,rfl⟩
 have HSS:=Lib.hid hs
 rw [hs] at hpost
 have HP1:=Lib.hid hpost
 obtain ⟨M1,hat,hon,hsub⟩:=hpost
 have HSM:Hid (Small s):=by rw [← hs];exact HS.out
 have HAT:=Lib.hid hat
 have HON:=Lib.hid hon
 have HSUB:=Lib.hid hsub
 clear hat hon hsub hs
 obtain ⟨fu,hfu⟩:∃ fu,(beginM st).full=fu:=⟨_,rfl⟩
 have HFU:=Lib.hid hfu
 rw [hfu]
 clear hfu
 by_cases hb0:be=0
 ·subst hb0
  have HE:Hid (beginE st=0∧syncM st=safeM s):=⟨HBE.out,by unfold syncM;rw [if_pos HBE.out,HSS.out]⟩
  go_wp2_with fail
  refine (rsafe_any _ M1 b s _ HAT.out (by have:=HSM.out.now;omega)).mono ?_
  rintro e w2 ⟨rfl,hpost⟩
  have HP2:=Lib.hid (FsPost.trans HON.out HSUB.out hpost)
  clear hpost
  go_wp2_with fail
  go_ret
  exact ⟨by rw [HE.out.1];rfl,by rw [HE.out.2];exact HP2.out⟩
 ·have e1:(be==0)=false:=by rw [beq_eq_false_iff_ne];exact hb0
  have HE:Hid (beginE st=be∧syncM st=s):=⟨by rw [HBE.out],by unfold syncM;rw [HBE.out,if_neg hb0];exact HSS.out⟩
  clear hb0
  go_wp2_with fail
  go_ret
  exact ⟨by rw [HE.out.1];rfl,by rw [HE.out.2];exact HP1.out⟩
set_option maxRecDepth 100000 in
theorem rmove_any' (F M : Nat → Prop) (b : Nat) (st : FSM) (N : Nat) (fr tt : List UInt8) (w : World) (h : RefAt F w b st M) (hr : Ready st N) (hf : fr.length ≤ 1000000) (ht : tt.length ≤ 1000000) :
  Calls Tryz.prog 38 #[.pointer (some ⟨b,0,none⟩),.string (str fr),.string (str tt)] w fun e w'=>e=.returned (.int .i64 (moveE st fr tt false))∧FsPost F M w b (moveM st fr tt false) w':=by
 go_enter Tryz.func38,Tryz.ntmps38
 go_wp2_with fail
 refine (rmove_any F M b st N fr tt false _ h hr hf ht).mono ?_
 rintro e w1 ⟨rfl,hpost⟩
 go_wp2_with fail
 go_ret
 exact ⟨rfl,hpost⟩
set_option maxRecDepth 100000 in
theorem rmovenew_any (F M : Nat → Prop) (b : Nat) (st : FSM) (N : Nat) (fr tt : List UInt8) (w : World) (h : RefAt F w b st M) (hr : Ready st N) (hf : fr.length ≤ 1000000) (ht : tt.length ≤ 1000000) :
  Calls Tryz.prog 51 #[.pointer (some ⟨b,0,none⟩),.string (str fr),.string (str tt)] w fun e w'=>e=.returned (.int .i64 (moveE st fr tt true))∧FsPost F M w b (moveM st fr tt true) w':=by
 go_enter Tryz.func51,Tryz.ntmps51
 go_wp2_with fail
 refine (rmove_any F M b st N fr tt true _ h hr hf ht).mono ?_
 rintro e w1 ⟨rfl,hpost⟩
 go_wp2_with fail
 go_ret
 exact ⟨rfl,hpost⟩
end Go.Proofs.YtlkolcokjmlmjaaGreat.Tx
namespace Go.Proofs.YtlkolcokjmlmjaaGreat.Tx
open Go.RowKit Go.Proofs.YtlkolcokjmlmjaaGreat.Sh
set_option maxRecDepth 100000 in
theorem rup_any {F M:Nat→Prop} {b:Nat} {st:FSM} {w:World} (h:RefAt F w b st M):Calls Tryz.prog 76 #[.pointer (some ⟨b,0,none⟩)] w fun e w'=>e=.returned (.bool (!st.down))∧w=w':=by
 obtain ⟨x,hX,_⟩:=h
 have c7:w.cell? ⟨b,7,none⟩=some (.bool st.down):=hX.blk.cell 7
 clear hX
 go_enter Tryz.func76,Tryz.ntmps76
 go_wp2
 go_ret
 exact ⟨rfl,rfl⟩
set_option maxRecDepth 100000 in
theorem rcalls_any {F M:Nat→Prop} {b:Nat} {st:FSM} {w:World} (h:RefAt F w b st M):Calls Tryz.prog 68 #[.pointer (some ⟨b,0,none⟩)] w fun e w'=>e=.returned (.int .i64 st.calls)∧w=w':=by
 obtain ⟨x,hX,_⟩:=h
 have c5:w.cell? ⟨b,5,none⟩=some (.int .i64 st.calls):=hX.blk.cell 5
 clear hX
 go_enter Tryz.func68,Tryz.ntmps68
 go_wp2
 go_ret
 exact ⟨rfl,rfl⟩
set_option maxRecDepth 100000 in
theorem rnow_any {F M:Nat→Prop} {b:Nat} {st:FSM} {w:World} (h:RefAt F w b st M):Calls Tryz.prog 70 #[.pointer (some ⟨b,0,none⟩)] w fun e w'=>e=.returned (.int .i64 st.time)∧w=w':=by
 obtain ⟨x,hX,_⟩:=h
 have c6:w.cell? ⟨b,6,none⟩=some (.int .i64 st.time):=hX.blk.cell 6
 clear hX
 go_enter Tryz.func70,Tryz.ntmps70
 go_wp2
 go_ret
 exact ⟨rfl,rfl⟩
set_option maxRecDepth 100000 in
theorem rpending_any {F M:Nat→Prop} {b:Nat} {st:FSM} {w:World} (h:RefAt F w b st M):Calls Tryz.prog 74 #[.pointer (some ⟨b,0,none⟩)] w fun e w'=>e=.returned (.int .i64 st.pending.length)∧w=w':=by
 obtain ⟨x,hX,_⟩:=h
 obtain ⟨PA,pc,hPA,_,_,_⟩:=hX.ops
 have c3:w.cell? ⟨b,3,none⟩=some (.slice PA st.pending.length pc):=by rw [← hPA];exact hX.blk.cell 3
 clear hX hPA
 obtain ⟨n,hn⟩:∃ n,st.pending.length=n:=⟨_,rfl⟩
 rw [hn] at c3 ⊢
 clear hn
 go_enter Tryz.func74,Tryz.ntmps74
 go_wp2
 go_ret
 exact ⟨rfl,rfl⟩
set_option maxRecDepth 100000 in
theorem rfused_any {F M:Nat→Prop} {b:Nat} {st:FSM} {w:World} (h:RefAt F w b st M) (hu:usedM st.now≤4000000000000):Calls Tryz.prog 72 #[.pointer (some ⟨b,0,none⟩)] w fun e w'=>e=.returned (.int .i64 (usedM st.now))∧w=w':=by
 obtain ⟨x,hX,_⟩:=h
 have c1:w.cell? ⟨b,1,none⟩=some x.now:=hX.blk.cell 1
 have HX:=Lib.hid hX
 clear hX
 go_enter Tryz.func72,Tryz.ntmps72
 go_wp2_with fail
 refine (rused_any F x.now st.now _ HX.out.now hu).mono ?_
 rintro e w3 ⟨rfl,rfl⟩
 go_wp2_with fail
 go_ret
 exact ⟨rfl,rfl⟩
set_option maxRecDepth 100000 in
theorem rreboot_any {F M:Nat→Prop} {b:Nat} {st:FSM} {w:World} (h:RefAt F w b st M):Calls Tryz.prog 62 #[.pointer (some ⟨b,0,none⟩)] w fun e w'=>e=.returned (.tuple #[])∧FsPost F M w b { st with down:=false } w':=by
 obtain ⟨x,hX,hM⟩:=h
 have c7:w.cell? ⟨b,7,none⟩=some (.bool st.down):=hX.blk.cell 7
 have c7f:w.frozen? ⟨b,7,none⟩=false:=hX.blk.frozen 7
 have HF:=Lib.hid (cell_fin (st':={ st with down:=false }) 7 (.bool false) hX hM rfl rfl rfl rfl rfl rfl)
 clear hX hM
 go_enter Tryz.func62,Tryz.ntmps62
 go_wp2
 go_end0
 exact ⟨rfl,HF.out⟩
def newM (room:Int):FSM:=⟨room,[],[],[],[],0,0,false,[]⟩
def newB (room:Int):Bool:=decide (0≤room∧room≤1073741824)
theorem new_at {F:Nat→Prop} {w:World} {b:Nat} (room:Int) (hg:Blk w b 73 (fsC (newM room) ⟨.slice none 0 0,.slice none 0 0,.slice none 0 0,.slice none 0 0,.slice none 0 0⟩)) (hb:¬ F b) (hF:∀ k,F k→k<w.heap.size):RefAt F w b (newM room) (fun k=>k=b) :=
 ⟨⟨.slice none 0 0,.slice none 0 0,.slice none 0 0,.slice none 0 0,.slice none 0 0⟩,⟨hg,RowsIn.nil_ F w,RowsIn.nil_ F w,OwnL.nil_ opK _ F w 0,InL.nil_ evK F w,OwnL.nil_ evK _ F w 0,hb,hF⟩,fun k=>⟨fun h=>.inl h,fun h=>by
  rcases h with h | h | h
  ·exact h
  ·cases h
  ·cases h⟩⟩
set_option maxRecDepth 100000 in
theorem rnew_any (F:Nat→Prop) (room:Int) (w:World) (hF:∀ k,F k→k<w.heap.size):Calls Tryz.prog 7 #[.int .i64 room] w fun e w'=>Below w.heap.size w w'∧(newB room=false∧e=.returned (.tuple #[.pointer none,.int .i64 1])∨newB room=true∧∃ b,w.heap.size≤b∧e=.returned (.tuple #[.pointer (some ⟨b,0,none⟩),.int .i64 0])∧RefAt F w' b (newM room) (fun k=>k=b)):=by
 go_enter Tryz.func7,Tryz.ntmps7
 by_cases h1:room<0
 ·have HNB:Hid (newB room=false):=decide_eq_false (by omega)
  go_wp2
  go_ret2
  exact ⟨Below.refl _ _,.inl ⟨HNB.out,rfl⟩⟩
 ·by_cases h2:1073741824<room
  ·have HNB:Hid (newB room=false):=decide_eq_false (by omega)
   go_wp2
   go_ret2
   exact ⟨Below.refl _ _,.inl ⟨HNB.out,rfl⟩⟩
  ·have HNB:Hid (newB room=true):=decide_eq_true (by omega)
   go_wp2
   go_ret2
   refine ⟨(Below.refl _ _).alloc (Nat.le_refl _) _,.inr ⟨HNB.out,w.heap.size,Nat.le_refl _,rfl,new_at room (Blk.new _ _ _) (fun hk=>by have:=hF _ hk;omega) (fun k hk=>?_)⟩⟩
   exact Nat.lt_of_lt_of_le (hF k hk) ((Below.refl w.heap.size w).alloc (Nat.le_refl _) _).size
end Go.Proofs.YtlkolcokjmlmjaaGreat.Tx
namespace Go.Proofs.YtlkolcokjmlmjaaGreat.Tx
open Go.RowKit Go.Proofs.YtlkolcokjmlmjaaGreat.Sh
def pathsM (R:List RowM):List (List UInt8):=R.map fun r=>r.path
theorem paths_next {R:List RowM} {k:Nat} {r:RowM} (h:R[k]?=some r):pathsM (R.take (k+1))=pathsM (R.take k)++[r.path]:=by
 obtain ⟨hl,e⟩:=List.getElem?_eq_some_iff.1 h
 unfold pathsM
 rw [List.take_succ_eq_append_getElem hl,List.map_append,e]
 rfl
theorem paths_len (R:List RowM) (k:Nat):(pathsM (R.take k)).length≤k:=by unfold pathsM;rw [List.length_map,List.length_take];omega
set_option maxRecDepth 100000 in
set_option maxHeartbeats 1600000 in
theorem rpaths_any {F M:Nat→Prop} {b:Nat} {st:FSM} {w:World} (h:RefAt F w b st M) (hn:st.now.length≤1000000):Calls Tryz.prog 78 #[.pointer (some ⟨b,0,none⟩)] w (TextsPost w ((pathsM st.now).map str)):=by
 obtain ⟨x,hX,_⟩:=h
 obtain ⟨A,c,hA,hlc,hcm⟩:=hX.now.slice
 unfold maxLen at hcm
 obtain ⟨n,hN⟩:∃ n,st.now.length=n:=⟨_,rfl⟩
 rw [hN] at hA hlc hn
 have HN:=Lib.hid hN
 have HX:=Lib.hid hX
 have HBL:Hid (∀ W,Below w.heap.size w W→W.cell? ⟨b,1,none⟩=some (.slice A n c)∧RowsIn F W (.slice A n c) st.now):=fun W hW=>by
  have hh:=hX.below hW
  rw [← hA]
  exact ⟨hh.blk.cell 1,hh.now⟩
 clear hX hN hA
 go_enter Tryz.func78,Tryz.ntmps78
 go_wp2_with fail
 go_loopw [3,4] (fun v i wr=>∃ k:Nat,k≤n∧i=.int .i64 k∧OwnV 9 wr w.heap.size v (((pathsM (st.now.take k)).map str).map sv)∧Below w.heap.size w wr) (fun _ i _=>n - (intOf i).toNat)
 case atStart=>exact ⟨0,by omega,rfl,OwnV.nil_ _ _,Below.refl _ _⟩
 case round =>
  obtain ⟨k,hk,rfl,ho,hb⟩:=hrel
  have HO:=Lib.hid ho
  have HB:=Lib.hid hb
  have hwz:=hb.size
  obtain ⟨c1,hrows⟩:=HBL.out _ hb
  clear ho hb
  have k0:(0:Int)≤(k:Int):=by omega
  by_cases hlt:k<n
  ·have k1:(k:Int)<(n:Int):=by omega
   obtain ⟨r,hr⟩:∃ r,st.now[k]?=some r:=⟨_,List.getElem?_eq_getElem (by rw [HN.out];exact hlt)⟩
   obtain ⟨ad,d,rfl,_,hc0,_,_,_⟩:=hrows.at_ k r hr
   have HNX:=Lib.hid (paths_next hr)
   have hsm:((pathsM (st.now.take k)).map str).length+1≤2000000:=by rw [List.length_map];have:=paths_len st.now k;omega
   clear hr hrows
   go_wp2_with (at_builtin;refine append_text rfl (.tmp 14) (.tmp 23) rfl wr w.heap.size u3 ((pathsM (st.now.take k)).map str) rfl HO.out (str r.path) rfl hsm hwz ?_;intro v3 w3 ho3 hb3;have HO3:=Lib.hid ho3;have HB3:=Lib.hid hb3;clear ho3 hb3)
   go_roundw
   case rel =>
    refine ⟨k+1,by omega,by go_num,?_,HB.out.trans (HB3.out.mono (Nat.le_refl _))⟩
    rw [HNX.out]
    simpa using HO3.out
   case measure=>simp [intOf];omega
  ·obtain rfl:k=n:=by omega
   clear hrows
   go_wp2
   go_ret
   refine ⟨u3,rfl,?_,HB.out⟩
   have h1:=HO.out
   rw [← HN.out,List.take_length] at h1
   exact h1
end Go.Proofs.YtlkolcokjmlmjaaGreat.Tx
namespace Go.Proofs.YtlkolcokjmlmjaaGreat.Tx
open Go.RowKit Go.Proofs.YtlkolcokjmlmjaaGreat.Sh
def listB (dir:List UInt8) (r:RowM):Bool:=decide (dir=[])||underB dir r.path
def listL (R:List RowM) (dir:List UInt8):List (List UInt8):=pathsM (R.filter (listB dir))
def listE (st:FSM) (dir:List UInt8):Int:=if beginE st=0 then (if dir≠[]∧pathB dir=false then 6 else 0) else beginE st
def listO (st:FSM) (dir:List UInt8):List (List UInt8):=if listE st dir=0 then listL (beginM st).st.now dir else []
def ListPost (F M:Nat→Prop) (w:World) (b:Nat) (s:FSM) (n:Int) (l:List (List UInt8)) (e:Ending) (w':World):Prop :=
 ∃ v w1,e=.returned (.tuple #[v,.int .i64 n])∧FsPost F M w b s w1∧Below w1.heap.size w1 w'∧OwnV 9 w' w1.heap.size v ((l.map str).map sv)
theorem list_yes {R:List RowM} {dir:List UInt8} {k:Nat} {r:RowM} (h:R[k]?=some r) (hb:listB dir r=true):listL (R.take (k+1)) dir=listL (R.take k) dir++[r.path]:=by
 obtain ⟨hl,e⟩:=List.getElem?_eq_some_iff.1 h
 unfold listL pathsM
 rw [List.take_succ_eq_append_getElem hl,List.filter_append,List.map_append,e]
 simp [hb]
theorem list_no {R:List RowM} {dir:List UInt8} {k:Nat} {r:RowM} (h:R[k]?=some r) (hb:listB dir r=false):listL (R.take (k+1)) dir=listL (R.take k) dir:=by
 obtain ⟨hl,e⟩:=List.getElem?_eq_some_iff.1 h
 unfold listL pathsM
 rw [List.take_succ_eq_append_getElem hl,List.filter_append,List.map_append,e]
 simp [hb]
theorem list_len (R:List RowM) (dir:List UInt8) (k:Nat):(listL (R.take k) dir).length≤k:=by
 unfold listL pathsM
 rw [List.length_map]
 exact Nat.le_trans (List.length_filter_le _ _) (by rw [List.length_take];omega)
set_option maxRecDepth 100000 in
set_option maxHeartbeats 3200000 in
theorem rlist_any (F M : Nat → Prop) (b : Nat) (st : FSM) (N : Nat) (dir : List UInt8) (w : World) (h : RefAt F w b st M) (hr : Ready st N) (hd : dir.length ≤ 1000000) :
  Calls Tryz.prog 43 #[.pointer (some ⟨b,0,none⟩),.string (str dir)] w (ListPost F M w b (beginM st).st (listE st dir) (listO st dir)):=by
 have H:=Lib.hid h
 have HR:=Lib.hid hr
 have HS:=Lib.hid hr.small
 clear h hr
 obtain ⟨be,hbe⟩:∃ be,beginE st=be:=⟨_,rfl⟩
 have HBE:=Lib.hid hbe
 clear hbe
 obtain ⟨tp,htp⟩:∃ t,pathB dir=t:=⟨_,rfl⟩
 have HTP:=Lib.hid htp
 clear htp
 go_enter Tryz.func43,Tryz.ntmps43
 go_wp2_with fail
 refine (rbegin_any F M b st N _ H.out HR.out.fits (by have:=HR.out.big;omega) HR.out.calls HR.out.paths).mono ?_
 rintro e w1 ⟨rfl,hpost⟩
 rw [HBE.out]
 obtain ⟨s,hs⟩:∃ s,(beginM st).st=s:=⟨_,rfl⟩
 have HSS:=Lib.hid hs
 rw [hs] at hpost
 have HP1:=Lib.hid hpost
 obtain ⟨M1,hat,hon,hsub⟩:=hpost
 have HSM:Hid (Small s):=by rw [← hs];exact HS.out
 have HAT:=Lib.hid hat
 clear hat hon hsub hs
 obtain ⟨fu,hfu⟩:∃ fu,(beginM st).full=fu:=⟨_,rfl⟩
 rw [hfu]
 clear hfu
 by_cases hb0:be=0
 ·subst hb0
  obtain ⟨x,hX,_⟩:=HAT.out
  obtain ⟨A,c,hA,hlc,hcm⟩:=hX.now.slice
  unfold maxLen at hcm
  obtain ⟨n,hN⟩:∃ n,s.now.length=n:=⟨_,rfl⟩
  rw [hN] at hA hlc
  have hn:n≤900000:=by rw [← hN];exact HSM.out.now
  have HN:=Lib.hid hN
  have HBL:Hid (∀ W,Below w1.heap.size w1 W→W.cell? ⟨b,1,none⟩=some (.slice A n c)∧RowsIn (grow F w w1 M1) W (.slice A n c) s.now):=fun W hW=>by
   have hh:=hX.below hW
   rw [← hA]
   exact ⟨hh.blk.cell 1,hh.now⟩
  clear hX hN hA
  by_cases hde:dir=[]
  ·have HDE:=Lib.hid hde
   have HE:Hid (listE st dir=0∧listO st dir=listL s.now dir):=by
    have h1:listE st dir=0:=by unfold listE;rw [HBE.out,if_pos rfl,if_neg (fun h=>h.1 hde)]
    exact ⟨h1,by unfold listO;rw [h1,if_pos rfl,HSS.out]⟩
   have z2:(str dir).toList=[]:=by rw [str_toList];exact hde
   clear hde
   go_wp2_with fail
   go_loopw [8,9] (fun v i wr=>∃ k:Nat,k≤n∧i=.int .i64 k∧OwnV 9 wr w1.heap.size v (((listL (s.now.take k) dir).map str).map sv)∧Below w1.heap.size w1 wr) (fun _ i _=>n - (intOf i).toNat)
   case atStart=>exact ⟨0,Nat.zero_le _,rfl,OwnV.nil_ _ _,Below.refl _ _⟩
   case round =>
    obtain ⟨k,hk,rfl,ho,hb⟩:=hrel
    have HO:=Lib.hid ho
    have HB:=Lib.hid hb
    have hwz:=hb.size
    obtain ⟨c1,hrows⟩:=HBL.out _ hb
    clear ho hb
    have k0:(0:Int)≤(k:Int):=by omega
    by_cases hlt:k<n
    ·have k1:(k:Int)<(n:Int):=by omega
     obtain ⟨r,hr⟩:∃ r,s.now[k]?=some r:=⟨_,List.getElem?_eq_getElem (by rw [HN.out];exact hlt)⟩
     obtain ⟨ad,d,rfl,_,hc0,_,_,_⟩:=hrows.at_ k r hr
     have HRK:=Lib.hid hr
     have hrl:r.path.length≤1000000:=HSM.out.nrow r (List.mem_of_getElem? hr)
     have hsm:((listL (s.now.take k) dir).map str).length+1≤2000000:=by rw [List.length_map];have:=list_len s.now dir k;omega
     clear hr hrows
     have HLB:Hid (listB dir r=true):=by unfold Hid listB;rw [HDE.out];rfl
     go_wp2_with (at_builtin;refine append_text rfl (.tmp 48) (.tmp 57) rfl wr w1.heap.size u8 ((listL (s.now.take k) dir).map str) rfl HO.out (str r.path) rfl hsm hwz ?_;intro v3 w3 ho3 hb3;have HO3:=Lib.hid ho3;have HB3:=Lib.hid hb3;clear ho3 hb3)
     go_roundw
     case rel =>
      refine ⟨k+1,by omega,by go_num,?_,HB.out.trans (HB3.out.mono (Nat.le_refl _))⟩
      rw [list_yes HRK.out HLB.out]
      simpa using HO3.out
     case measure=>simp [intOf];omega
    ·obtain rfl:k=n:=by omega
     clear hrows
     go_wp2
     go_ret2
     refine ⟨u8,w1,by rw [HE.out.1];rfl,by rw [HSS.out];exact HP1.out,HB.out,?_⟩
     have h1:=HO.out
     rw [← HN.out,List.take_length] at h1
     rw [HE.out.2]
     exact h1
  ·have HDE:=Lib.hid hde
   have z2:¬ ((str dir).toList=[]):=by rw [str_toList];exact hde
   have z3:(str dir).toList.isEmpty=false:=by rw [str_toList];cases dir with
    | nil=>exact absurd rfl hde
    | cons=>rfl
   clear hde
   go_wp2_with fail
   refine (rpath_any dir _ hd).mono ?_
   rintro e w1b ⟨rfl,hbs⟩
   rw [HTP.out]
   have HBS:=Lib.hid hbs
   clear hbs
   cases tp with
   | false =>
    have HE:Hid (listE st dir=6∧listO st dir=[]):=by
     have h1:listE st dir=6:=by unfold listE;rw [HBE.out,if_pos rfl,if_pos ⟨HDE.out,HTP.out⟩]
     exact ⟨h1,by unfold listO;rw [h1,if_neg (by decide)]⟩
    go_wp2_with fail
    go_ret2
    exact ⟨_,w1,by rw [HE.out.1];rfl,by rw [HSS.out];exact HP1.out,HBS.out,by rw [HE.out.2];exact OwnV.nil_ _ _⟩
   | true =>
    have HE:Hid (listE st dir=0∧listO st dir=listL s.now dir):=by
     have h1:listE st dir=0:=by unfold listE;rw [HBE.out,if_pos rfl,if_neg (fun h=>by rw [HTP.out] at h;exact absurd h.2 (by decide))]
     exact ⟨h1,by unfold listO;rw [h1,if_pos rfl,HSS.out]⟩
    go_wp2_with fail
    go_loopw [8,9] (fun v i wr=>∃ k:Nat,k≤n∧i=.int .i64 k∧OwnV 9 wr w1.heap.size v (((listL (s.now.take k) dir).map str).map sv)∧Below w1.heap.size w1 wr) (fun _ i _=>n - (intOf i).toNat)
    case atStart=>exact ⟨0,Nat.zero_le _,rfl,OwnV.nil_ _ _,HBS.out⟩
    case round =>
     obtain ⟨k,hk,rfl,ho,hb⟩:=hrel
     have HO:=Lib.hid ho
     have HB:=Lib.hid hb
     have hwz:=hb.size
     obtain ⟨c1,hrows⟩:=HBL.out _ hb
     clear ho hb
     have k0:(0:Int)≤(k:Int):=by omega
     by_cases hlt:k<n
     ·have k1:(k:Int)<(n:Int):=by omega
      obtain ⟨r,hr⟩:∃ r,s.now[k]?=some r:=⟨_,List.getElem?_eq_getElem (by rw [HN.out];exact hlt)⟩
      obtain ⟨ad,d,rfl,_,hc0,_,_,_⟩:=hrows.at_ k r hr
      have HRK:=Lib.hid hr
      have hrl:r.path.length≤1000000:=HSM.out.nrow r (List.mem_of_getElem? hr)
      have hsm:((listL (s.now.take k) dir).map str).length+1≤2000000:=by rw [List.length_map];have:=list_len s.now dir k;omega
      clear hr hrows
      obtain ⟨ub,hub⟩:∃ ub,underB dir r.path=ub:=⟨_,rfl⟩
      have HUB:=Lib.hid hub
      clear hub
      go_wp2_with fail
      refine (runder_any dir r.path _ hd hrl).mono ?_
      rintro e w2 ⟨rfl,hb2⟩
      rw [HUB.out]
      have HB2:=Lib.hid (HB.out.trans (hb2.mono hwz))
      have hwz2:=HB2.out.size
      have HO2:=Lib.hid (HO.out.below (B:=w1.heap.size) hb2)
      clear hb2
      obtain ⟨c12,hrows2⟩:=HBL.out _ HB2.out
      cases ub with
      | false =>
       have HLB:Hid (listB dir r=false):=by unfold Hid listB;rw [decide_eq_false HDE.out,HUB.out];rfl
       clear hrows2
       go_wp2_with fail
       go_roundw
       case rel=>exact ⟨k+1,by omega,by go_num,by rw [list_no HRK.out HLB.out];exact HO2.out,HB2.out⟩
       case measure=>simp [intOf];omega
      | true =>
       have HLB:Hid (listB dir r=true):=by unfold Hid listB;rw [HUB.out,Bool.or_true]
       obtain ⟨ad',d',hA',_,hc0',_,_,_⟩:=hrows2.at_ k r HRK.out
       injection hA' with hA'
       subst hA'
       clear hrows2
       go_wp2_with (at_builtin;refine append_text rfl (.tmp 48) (.tmp 57) rfl w2 w1.heap.size u8 ((listL (s.now.take k) dir).map str) rfl HO2.out (str r.path) rfl hsm hwz2 ?_;intro v3 w3 ho3 hb3;have HO3:=Lib.hid ho3;have HB3:=Lib.hid hb3;clear ho3 hb3)
       go_roundw
       case rel =>
        refine ⟨k+1,by omega,by go_num,?_,HB2.out.trans (HB3.out.mono (Nat.le_refl _))⟩
        rw [list_yes HRK.out HLB.out]
        simpa using HO3.out
       case measure=>simp [intOf];omega
     ·obtain rfl:k=n:=by omega
      clear hrows
      go_wp2
      go_ret2
      refine ⟨u8,w1,by rw [HE.out.1];rfl,by rw [HSS.out];exact HP1.out,HB.out,?_⟩
      have h1:=HO.out
      rw [← HN.out,List.take_length] at h1
      rw [HE.out.2]
      exact h1
 ·have e1:(be==0)=false:=by rw [beq_eq_false_iff_ne];exact hb0
  have HE:Hid (listE st dir=be∧listO st dir=[]):=by
   have h1:listE st dir=be:=by unfold listE;rw [HBE.out,if_neg hb0]
   exact ⟨h1,by unfold listO;rw [h1,if_neg hb0]⟩
  clear hb0
  go_wp2_with fail
  go_ret2
  exact ⟨_,w1,by rw [HE.out.1];rfl,by rw [HSS.out];exact HP1.out,Below.refl _ _,by rw [HE.out.2];exact OwnV.nil_ _ _⟩
end Go.Proofs.YtlkolcokjmlmjaaGreat.Tx
