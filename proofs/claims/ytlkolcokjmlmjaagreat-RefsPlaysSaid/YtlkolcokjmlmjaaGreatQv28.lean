/- Texts put together: VShU1, VRf1, VGd2, VGd3, VGd4, VGe0, VGe1, VHa0. -/
import Derived.Test.YtlkolcokjmlmjaaGreatQv27
import Derived.Test.YtlkolcokjmlmjaaGreatQv23
import Derived.Lib.SlBytesConst
namespace Go.Proofs.YtlkolcokjmlmjaaGreat.Sh
open Go.RowKit
def dvv (c:UInt8):UInt8:=(dv c).getD 0
def un2 (a b:UInt8):UInt8:=UInt8.ofNat (16*(dvv a).toNat+(dvv b).toNat)
def unhexN (cs:List UInt8) (k:Nat):List UInt8:=(List.range k).map (fun i=>un2 (cs.getD (2*i) 0) (cs.getD (2*i+1) 0))
def unhexL (cs:List UInt8):List UInt8:=unhexN cs (cs.length / 2)
theorem unhexN_next (cs:List UInt8) (k:Nat):unhexN cs (k+1)=unhexN cs k++[un2 (cs.getD (2*k) 0) (cs.getD (2*k+1) 0)]:=by
 unfold unhexN
 rw [List.range_succ,List.map_append]
 rfl
theorem unhexN_length (cs:List UInt8) (k:Nat):(unhexN cs k).length=k:=by unfold unhexN;simp
theorem unhexL_length (cs:List UInt8):(unhexL cs).length=cs.length / 2:=unhexN_length _ _
theorem dv_lt (c v:UInt8) (h:dv c=some v):v.toNat<16:=by
 have hb:=bi_lt c
 rcases dv_cases c with ⟨_,h2⟩ | ⟨h1,h1',h2⟩ | ⟨_,_,h2⟩ | ⟨h1,h1',h2⟩ | ⟨_,h2⟩
 all_goals rw [h] at h2
 all_goals first | (injection h2 with h2;rw [h2,UInt8.toNat_ofNat'];omega) | cases h2
theorem dvv_of {c v:UInt8} (h:dv c=some v):dvv c=v:=by unfold dvv;rw [h];rfl
def UnPost (w:World) (bs:List UInt8) (e:Ending) (w':World):Prop:=∃ v,e=.returned (.tuple #[v,.bool true])∧Own w' w.heap.size v bs∧Below w.heap.size w w'
theorem valid_any (cs:List UInt8) (t:Bool) (ht:(cs.length==64&&hexOk cs)=t) (w:World) (hl:cs.length≤1000000):Calls Tryz.prog 30 #[.string (str cs)] w fun e w'=>e=.returned (.bool t)∧w=w':=by
 have hsz:=str_size cs
 by_cases h64:cs.length=64
 ·rw [h64] at hsz
  rw [beq_iff_eq.2 h64,Bool.true_and] at ht
  have HT:=Lib.hid ht
  clear ht h64
  go_enter Tryz.func30,Tryz.ntmps30
  go_wp2_with fail
  cases t with
  | false =>
   refine (ishex_no cs _ HT.out hl).mono ?_
   rintro e w' ⟨rfl,rfl⟩
   go_wp2_with fail
   go_ret
   exact ⟨rfl,rfl⟩
  | true =>
   refine (ishex_yes cs _ HT.out hl).mono ?_
   rintro e w' ⟨rfl,rfl⟩
   go_wp2_with fail
   go_ret
   exact ⟨rfl,rfl⟩
 ·rw [beq_eq_false_iff_ne.2 h64,Bool.false_and] at ht
  subst ht
  obtain ⟨l,hL⟩:∃ l,cs.length=l:=⟨_,rfl⟩
  rw [hL] at hsz h64
  have e1:((l:Int)==64)=false:=beq_eq_false_iff_ne.2 (by omega)
  clear hL
  go_enter Tryz.func30,Tryz.ntmps30
  go_wp2_with fail
  go_ret
  exact ⟨rfl,rfl⟩
theorem dv_hexd (n:UInt8) (h:n.toNat<16):dv (hexd n)=some n:=by
 obtain ⟨m,hm,rfl⟩:∃ m,m<16∧n=UInt8.ofNat m:=⟨n.toNat,h,by simp⟩
 have key:∀ m,m<16→dv (hexd (UInt8.ofNat m))=some (UInt8.ofNat m):=by decide +kernel
 exact key m hm
theorem hexL_cons (x:UInt8) (r:List UInt8):hexL (x::r)=hexd (hi4 x)::hexd (lo4 x)::hexL r:=rfl
theorem hexOk_hexL (bs:List UInt8):hexOk (hexL bs)=true:=by
 refine hexOk_of (by rw [hexL_length];omega) ?_
 induction bs with
 | nil=>intro k hk;cases hk
 | cons x r ih =>
  intro k hk
  rw [hexL_cons] at hk ⊢
  match k with
  | 0=>exact ⟨_,dv_hexd _ (hi4_lt x)⟩
  | 1=>exact ⟨_,dv_hexd _ (lo4_lt x)⟩
  | k+2=>exact ih k (by simpa using hk)
end Go.Proofs.YtlkolcokjmlmjaaGreat.Sh
set_option linter.unusedVariables false
set_option linter.unusedSimpArgs false
namespace Go.Proofs.YtlkolcokjmlmjaaGreat.Tx
open Go.RowKit Go.Proofs.YtlkolcokjmlmjaaGreat.Sh
def refP (n:List UInt8):List UInt8:=115::47::114::47::n
def lockP (n:List UInt8):List UInt8:=115::47::108::47::n
theorem refP_len (n:List UInt8):(refP n).length=n.length+4:=rfl
theorem lockP_len (n:List UInt8):(lockP n).length=n.length+4:=rfl
def validB (cs:List UInt8):Bool:=cs.length==64&&hexOk cs
theorem valid_len {cs:List UInt8} (h:validB cs=true):cs.length=64:=by
 unfold validB at h
 simp at h
 exact h.1
def expE (c:CSt) (n old:List UInt8):Int :=
 if redE c (refP n)=7 then (if old=[] then 0 else 13)
 else if redE c (refP n)≠0 then redE c (refP n)
 else if old=[]∨(redF c (refP n)).data≠old++[10] then 13 else 0
def prepE (c:CSt) (n old:List UInt8):Int:=if expE c n old=0 then bgE (bgC c).c else expE c n old
def prepC (c:CSt) (n old:List UInt8):CSt:=if expE c n old=0 then synC (bgC c).c else (bgC c).c
def slE (c:CSt) (n old:List UInt8):Int :=
 if prepE c n old=0 then
  (if movE (prepC c n old) (lockP n) (refP n) false=0 then bgE (movC (prepC c n old) (lockP n) (refP n) false) else movE (prepC c n old) (lockP n) (refP n) false)
 else prepE c n old
def slC (c:CSt) (n old:List UInt8):CSt :=
 if prepE c n old=0 then
  (if movE (prepC c n old) (lockP n) (refP n) false=0 then synC (movC (prepC c n old) (lockP n) (refP n) false) else movC (prepC c n old) (lockP n) (refP n) false)
 else remC (prepC c n old) (lockP n)
def setE (c:CSt) (n old new:List UInt8):Int :=
 if nameB n=false then 6 else if validB new=false∨(old≠[]∧validB old=false) then 1
 else if crtE c (lockP n) 1 (new++[10]) true=0 then slE (crtC c (lockP n) 1 (new++[10]) true) n old
 else if crtE c (lockP n) 1 (new++[10]) true=8 then 13 else crtE c (lockP n) 1 (new++[10]) true
def setC (c:CSt) (n old new:List UInt8):CSt :=
 if nameB n=false then c else if validB new=false∨(old≠[]∧validB old=false) then c
 else if crtE c (lockP n) 1 (new++[10]) true=0 then slC (crtC c (lockP n) 1 (new++[10]) true) n old
 else crtC c (lockP n) 1 (new++[10]) true
def hinB (d:List UInt8):Bool:=[10].isSuffixOf d&&validB (d.take (d.length - 1))
def hinV (d:List UInt8):List UInt8:=if hinB d=true then d.take (d.length - 1) else []
theorem hin_of {h:List UInt8} (hv:validB h=true):hinB (h++[10])=true∧hinV (h++[10])=h:=by
 have h1:(h++[10]).take ((h++[10]).length - 1)=h:=by simp
 have h2:hinB (h++[10])=true:=by
  unfold hinB
  rw [h1,hv]
  simp
 exact ⟨h2,by unfold hinV;rw [if_pos h2,h1]⟩
def getE (c:CSt) (n:List UInt8):Int :=
 if nameB n=false then 6 else if redE c (refP n)≠0 then redE c (refP n) else if hinB (redF c (refP n)).data=false then 4 else 0
def getV (c:CSt) (n:List UInt8):List UInt8:=if getE c n=0 then hinV (redF c (refP n)).data else []
def getC (c:CSt) (n:List UInt8):CSt:=if nameB n=false then c else (bgC c).c
def delE (c:CSt) (n old:List UInt8):Int :=
 if nameB n=false then 6 else if validB old=false then 1
 else if redE c (refP n)≠0 then redE c (refP n) else if (redF c (refP n)).data≠old++[10] then 13
 else if remE (bgC c).c (refP n)=0 then bgE (remC (bgC c).c (refP n)) else remE (bgC c).c (refP n)
def delC (c:CSt) (n old:List UInt8):CSt :=
 if nameB n=false then c else if validB old=false then c
 else if redE c (refP n)≠0 then (bgC c).c else if (redF c (refP n)).data≠old++[10] then (bgC c).c
 else if remE (bgC c).c (refP n)=0 then synC (remC (bgC c).c (refP n)) else remC (bgC c).c (refP n)
def lastN (dir p:List UInt8):List UInt8:=if (dir++[47]).isPrefixOf p then p.drop (dir.length+1) else p
def nmsL (dir:List UInt8) (ps:List (List UInt8)):List (List UInt8):=(ps.map (lastN dir)).filter nameB
def rlsE (c:CSt) (dir:List UInt8):Int:=lisE c dir
def rlsV (c:CSt) (dir:List UInt8):List (List UInt8):=if lisE c dir=0 then nmsL dir (lisO c dir) else []
def unlC:CSt→List (List UInt8)→CSt
 | c,[]=>c
 | c,n::l=>if remE c (lockP n)=0 then unlC (remC c (lockP n)) l else remC c (lockP n)
def unlE:CSt→List (List UInt8)→Int
 | _,[]=>0
 | c,n::l=>if remE c (lockP n)=0 then unlE (remC c (lockP n)) l else remE c (lockP n)
theorem GoC.upto {c:CSt} {i j:Nat} (h:GoC c i) (hij:i≤j):GoC c j:=⟨h.fits.more (by omega),⟨h.calls.1,by have:=h.calls.2;omega⟩,h.plan,h.paths⟩
theorem GoC.prep {c:CSt} {i:Nat} (h:GoC c i) (n old:List UInt8):GoC (prepC c n old) (i+2):=by
 unfold prepC
 split
 ·exact h.bg.syn
 ·exact h.bg.upto (by omega)
theorem GoC.sl {c:CSt} {i:Nat} (h:GoC c i) (n old:List UInt8):GoC (slC c n old) (i+4):=by
 unfold slC
 split
 ·split
  ·exact ((h.prep n old).mov _ _ _).syn
  ·exact ((h.prep n old).mov _ _ _).upto (by omega)
 ·exact ((h.prep n old).rem _).upto (by omega)
theorem GoC.set_ {c:CSt} {i:Nat} (h:GoC c i) (n old new:List UInt8):GoC (setC c n old new) (i+5):=by
 unfold setC
 split
 ·exact h.upto (by omega)
 ·split
  ·exact h.upto (by omega)
  ·split
   ·exact (h.crt _ _ _ _).sl n old
   ·exact (h.crt _ _ _ _).upto (by omega)
end Go.Proofs.YtlkolcokjmlmjaaGreat.Tx
namespace Go.Proofs.YtlkolcokjmlmjaaGreat.Tx
theorem doesM_at {P : FSM → Prop} (s : FSM) (o : LOp)
  (h0:o.kind=0→P (writeM s o.path o.mode o.data true))
  (h1:o.kind=1→P (writeM s o.path o.mode o.data false))
  (h2:o.kind=2→P (moveM s o.path o.dest false))
  (h3:o.kind=3→P (moveM s o.path o.dest true))
  (h4:o.kind=4→P (removeM s o.path))
  (h5:o.kind=5→P (syncM s))
  (h6:o.kind=6→P ((beginM s).st))
  (h7:o.kind=7→P ((beginM s).st))
  (h8:o.kind=8→P (userWM s o.path o.mode o.data))
  (h9:o.kind=9→P (userRM s o.path))
  (h10:o.kind=10→P (crashM s o.keep o.torn))
  (h11:o.kind=11→P ({ s with down:=false }))
  (h12:o.kind=12→P (planM s o.plan))
  (hx:o.kind<0∨12<o.kind→P s):P (doesM s o):=by
 unfold doesM
 by_cases e0:o.kind=0
 ·rw [if_pos e0];exact h0 e0
 rw [if_neg e0]
 by_cases e1:o.kind=1
 ·rw [if_pos e1];exact h1 e1
 rw [if_neg e1]
 by_cases e2:o.kind=2
 ·rw [if_pos e2];exact h2 e2
 rw [if_neg e2]
 by_cases e3:o.kind=3
 ·rw [if_pos e3];exact h3 e3
 rw [if_neg e3]
 by_cases e4:o.kind=4
 ·rw [if_pos e4];exact h4 e4
 rw [if_neg e4]
 by_cases e5:o.kind=5
 ·rw [if_pos e5];exact h5 e5
 rw [if_neg e5]
 by_cases e6:o.kind=6
 ·rw [if_pos e6];exact h6 e6
 rw [if_neg e6]
 by_cases e7:o.kind=7
 ·rw [if_pos e7];exact h7 e7
 rw [if_neg e7]
 by_cases e8:o.kind=8
 ·rw [if_pos e8];exact h8 e8
 rw [if_neg e8]
 by_cases e9:o.kind=9
 ·rw [if_pos e9];exact h9 e9
 rw [if_neg e9]
 by_cases e10:o.kind=10
 ·rw [if_pos e10];exact h10 e10
 rw [if_neg e10]
 by_cases e11:o.kind=11
 ·rw [if_pos e11];exact h11 e11
 rw [if_neg e11]
 by_cases e12:o.kind=12
 ·rw [if_pos e12];exact h12 e12
 rw [if_neg e12]
 exact hx (by omega)
theorem GoM.next {s s':FSM} {i:Nat} (h:GoM s i) (hf:Fits s' (130*i+122)) (hc:s'.calls=s.calls∨s'.calls=s.calls+1) (hp:s'.plan=s.plan):GoM s' (i+1):=by
 have h1:=h.calls
 refine ⟨hf.more (by omega),?_,by rw [hp];exact h.plan,fun e he=>h.paths e (hp ▸ he)⟩
 rcases hc with hc | hc
 ·rw [hc];constructor <;> omega
 ·rw [hc];constructor <;> omega
theorem begin_keeps (s:FSM):(beginM s).st.plan=s.plan∧(beginM s).st.calls=s.calls+1:=⟨(beg_keeps s s.plan.length).1,(beg_keeps s s.plan.length).2.1⟩
theorem GoM.begun {s:FSM} {i:Nat} (h:GoM s i):Fits (beginM s).st (130*i+120):=(h.fits.beg s.plan.length).more (by have:=h.plan;omega)
theorem moveM0_keeps (s:FSM) (fr tt:List UInt8) (only:Bool):(moveM0 s fr tt only).plan=s.plan∧(moveM0 s fr tt only).calls=s.calls:=by
 unfold moveM0
 split <;> exact ⟨rfl,rfl⟩
theorem pathB_le {p:List UInt8} (h:pathB p=true):p.length≤1000:=path_short h
theorem Fits.move {s:FSM} {N:Nat} (h:Fits s N) (fr tt:List UInt8) (only:Bool):Fits (moveM0 s fr tt only) (N+1):=by
 unfold moveM0
 split
 ·rename_i h1
  refine h.change (o:=⟨2,fr,tt,⟨0,[],0⟩⟩) ⟨?_,Nat.zero_le _⟩
  refine pathB_le ?_
  have h2:=h1.1
  unfold moveE0 at h2
  by_cases hp:pathB fr=false∨pathB tt=false
  ·rw [if_pos hp] at h2;omega
  ·cases ht:pathB tt with
   | true=>rfl
   | false=>exact (hp (.inr ht)).elim
 ·exact h.more (by omega)
theorem GoM.wrt {s:FSM} {i:Nat} (h:GoM s i) (p:List UInt8) (mode:Int) (data:List UInt8) (only:Bool):GoM (writeM s p mode data only) (i+1):=by
 obtain ⟨e1,e2⟩:=begin_keeps s
 unfold writeM
 split
 ·obtain ⟨e3,e4,_⟩:=put_keeps (beginM s).st p mode data only (beginM s).full (beginM s).st.room
  exact h.next ((h.begun.put p mode data only _ _).more (by omega)) (.inr (e4.trans e2)) (e3.trans e1)
 ·exact h.next (h.begun.more (by omega)) (.inr e2) e1
theorem GoM.mov {s:FSM} {i:Nat} (h:GoM s i) (fr tt:List UInt8) (only:Bool):GoM (moveM s fr tt only) (i+1):=by
 obtain ⟨e1,e2⟩:=begin_keeps s
 unfold moveM
 split
 ·obtain ⟨e3,e4⟩:=moveM0_keeps (beginM s).st fr tt only
  exact h.next ((h.begun.move fr tt only).more (by omega)) (.inr (e4.trans e2)) (e3.trans e1)
 ·exact h.next (h.begun.more (by omega)) (.inr e2) e1
theorem GoM.rem {s:FSM} {i:Nat} (h:GoM s i) (p:List UInt8):GoM (removeM s p) (i+1):=by
 obtain ⟨e1,e2⟩:=begin_keeps s
 unfold removeM
 split
 ·obtain ⟨e3,e4,_⟩:=drop_keeps (beginM s).st p
  exact h.next ((h.begun.drop p).more (by omega)) (.inr (e4.trans e2)) (e3.trans e1)
 ·exact h.next (h.begun.more (by omega)) (.inr e2) e1
theorem GoM.syn {s:FSM} {i:Nat} (h:GoM s i):GoM (syncM s) (i+1):=by
 obtain ⟨e1,e2⟩:=begin_keeps s
 unfold syncM
 split
 ·exact h.next (h.begun.safe.more (by omega)) (.inr e2) e1
 ·exact h.next (h.begun.more (by omega)) (.inr e2) e1
theorem GoM.bg {s:FSM} {i:Nat} (h:GoM s i):GoM (beginM s).st (i+1):=by
 obtain ⟨e1,e2⟩:=begin_keeps s
 exact h.next (h.begun.more (by omega)) (.inr e2) e1
theorem GoM.does {s:FSM} {i:Nat} (h:GoM s i) {o:LOp} (ho:OpOK o):GoM (doesM s o) (i+1):=by
 refine doesM_at (P:=fun s'=>GoM s' (i+1)) s o (fun _=>h.wrt _ _ _ _) (fun _=>h.wrt _ _ _ _) (fun _=>h.mov _ _ _) (fun _=>h.mov _ _ _) (fun _=>h.rem _) (fun _=>h.syn) (fun _=>h.bg) (fun _=>h.bg) (fun _=>?_) (fun _=>?_) (fun _=>?_) (fun _=>?_) (fun _=>?_) (fun _=>?_)
 ·obtain ⟨e3,e4,_⟩:=userW_keeps s o.path o.mode o.data
  exact h.next ((h.fits.userW _ _ _).more (by omega)) (.inl e4) e3
 ·obtain ⟨e3,e4,_⟩:=userR_keeps s o.path
  exact h.next ((h.fits.userR _).more (by omega)) (.inl e4) e3
 ·obtain ⟨e3,e4,_⟩:=crash_keeps s o.keep o.torn
  exact h.next ((h.fits.crash _ _).more (by omega)) (.inl e4) e3
 ·exact h.next (s':={ s with down:=false }) ⟨Nat.le_trans h.fits.now (by omega),Nat.le_trans h.fits.both (by omega),Nat.le_trans h.fits.user (by omega),h.fits.time0,by have:=h.fits.time;show s.time≤_;omega,h.fits.nrow,h.fits.srow,h.fits.prow⟩ (.inl rfl) rfl
 ·have h1:=h.calls
  refine ⟨⟨Nat.le_trans h.fits.now (by omega),Nat.le_trans h.fits.both (by omega),Nat.le_trans h.fits.user (by omega),h.fits.time0,by have:=h.fits.time;show s.time≤_;omega,h.fits.nrow,h.fits.srow,h.fits.prow⟩,⟨h1.1,by show s.calls≤_;omega⟩,?_,fun e he=>?_⟩
  ·show (planR s.calls o.plan).length≤60
   exact Nat.le_trans (List.length_filter_le _ _) ho.plan
  ·have h2:e∈planR s.calls o.plan:=he
   exact ho.paths e (List.mem_filter.1 h2).1
 ·exact h.next (h.fits.more (by omega)) (.inl rfl) rfl
theorem GoM.new_ (room:Int):GoM (newM room) 0:=by
 refine ⟨⟨Nat.le_refl _,Nat.le_refl _,Nat.le_refl _,Int.le_refl _,Int.le_refl _,?_,?_,?_⟩,⟨Int.le_refl _,Int.le_refl _⟩,Nat.zero_le _,?_⟩
 all_goals exact fun r hr=>by cases hr
end Go.Proofs.YtlkolcokjmlmjaaGreat.Tx
namespace Go.Proofs.YtlkolcokjmlmjaaGreat.Tx
open Go.RowKit Go.Maps Go.Proofs.YtlkolcokjmlmjaaGreat.Sh
theorem by_new (w:World) (bs:List UInt8) (cs:Array Value) (T:TypeId) (mk:Nat × Nat) (hcs:cs.toList=bs.map bv) (m:Nat) (hm:bs.length=m) (hs:m≤1000):By (fun k=>k=w.heap.size) (w.alloc (.cells cs T mk)) (.slice (some ⟨w.heap.size,0,none⟩) m m) bs:=by
 refine ⟨some ⟨w.heap.size,0,none⟩,m,by rw [hm],by omega,by unfold maxLen;omega,by simp,(fun h=>by cases h),fun _=>⟨_,rfl,rfl,by simp,fun j u hu=>?_⟩⟩
 rw [Addr.add_mid,cell_of_row _ _ _ cs T mk (heap_alloc_new w _),Nat.zero_add,← hu,← hcs]
 simp
def Mine (w w1:World) (b:Nat) (c:CSt):Prop:=∃ F M,FcAt F w1 b c M∧(∀ k,M k→w.heap.size≤k)∧Below w.heap.size w w1
theorem Mine.of {F M:Nat→Prop} {w w1 w2:World} {b:Nat} {c:CSt} (hM:∀ k,M k→w.heap.size≤k) (hb:Below w.heap.size w w1) (h:FcPost F M w1 b c w2):Mine w w2 b c:=by
 obtain ⟨M',h1,h2,h3⟩:=h
 have hz:=hb.size
 refine ⟨_,M',h1,fun k hk=>?_,(((Only.of_below (M:=fun _=>False) hb).trans h2 (fun k hk=>.inr (hM k hk))).below)⟩
 rcases h3 k hk with h4 | h4
 ·exact hM k h4
 ·omega
theorem Mine.below {w w1 w2:World} {b:Nat} {c:CSt} (h:Mine w w1 b c) (hb:Below w1.heap.size w1 w2):Mine w w2 b c:=by
 obtain ⟨F,M,h1,h2,h3⟩:=h
 exact ⟨F,M,h1.below hb,h2,h3.trans (hb.mono h3.size)⟩
def fst1:CSt:=crtC (newC 100) [97] 1 [120] true
def fst2:CSt:=synC fst1
def fst3:CSt:=crtC fst2 [97] 1 [121,122] false
def fst4:CSt:=crC fst3 0 1
def fst5:CSt:={ fst4 with down:=false }
end Go.Proofs.YtlkolcokjmlmjaaGreat.Tx
namespace Go.Proofs.YtlkolcokjmlmjaaGreat.Tx
open Go.RowKit Go.Maps Go.Proofs.YtlkolcokjmlmjaaGreat.Sh
theorem FcPost.of_drew {F M:Nat→Prop} {w w':World} {b:Nat} {c:CSt} (h:FcPost F M w.drew b c w'):FcPost F M w b c w':=by
 obtain ⟨M',h1,h2,h3⟩:=h
 exact ⟨M',h1,h2.of_drew,h3⟩
theorem FcAt.drew_ {F M:Nat→Prop} {w:World} {b:Nat} {c:CSt} (h:FcAt F w b c M):FcAt F w.drew b c M:=h.only (Z:=fun _=>False) ((Only.refl _ _).drew) (fun _ _=>id) (fun _ _=>id)
theorem By.drew_ {F:Nat→Prop} {w:World} {v:Value} {bs:List UInt8} (h:By F w v bs):By F w.drew v bs:=By.only (M:=fun _=>False) h ((Only.refl _ _).drew) (fun _ _=>id)
theorem dj_f {M Mf:Nat→Prop} {n m:Nat} (h1:∀ k,Mf k→M k∨m≤k) (h2:∀ k,M k→k<n):∀ k,(n<k∧k<m)→¬ Mf k:=fun k hk hm=>by
 rcases h1 k hm with h | h
 ·have:=h2 k h;omega
 ·omega
theorem dj_x {G M Mx:Nat→Prop} {n m:Nat} (h1:∀ k,Mx k→M k∨m≤k) (hG:∀ k,G k→¬ M k) (hz:n<m):∀ k,(G k∧k<n)→¬ Mx k:=fun k hk hm=>by
 rcases h1 k hm with h | h
 ·exact hG k hk.1 h
 ·omega
section
variable {F M G:Nat→Prop} {w:World} {b N:Nat} {s:FSM}
theorem ruserw_fit (p : List UInt8) (mode : Int) (dv : Value) (data : List UInt8) (h : RefAt F w b s M) (hf : Fits s N) (hN : N ≤ 700000) (hdv : By G w dv data) (hG : ∀ k, G k → ¬ M k) (hp : p.length ≤ 1000000) :
  Calls Tryz.prog 56 #[.pointer (some ⟨b,0,none⟩),.string (str p),.int .i64 mode,dv] w fun e w'=>e=.returned (.int .i64 (userWE s p mode data))∧FsPost F M w b (userWM s p mode data) w':=by
 have h1:=(hf.small (by omega))
 have h2:=(hf.put p mode data false false 1152921504606846976).now
 exact ruserw_any F M b s p mode dv data w h G hdv hG hp h1.nrow h1.used h1.time (by have:=h1.now;omega) (by have:=h1.pending;omega) (by omega) (by have:=h1.user;omega)
theorem ruserr_fit (p : List UInt8) (h : RefAt F w b s M) (hf : Fits s N) (hN : N ≤ 700000) (hp : p.length ≤ 1000000) :
  Calls Tryz.prog 58 #[.pointer (some ⟨b,0,none⟩),.string (str p)] w fun e w'=>e=.returned (.int .i64 (userRE s p))∧FsPost F M w b (userRM s p) w':=by
 have h1:=(hf.small (by omega))
 have h2:=(hf.drop p).now
 exact ruserr_any F M b s p w h hp h1.time (by have:=h1.now;omega) (by have:=h1.pending;omega) (by omega) (by have:=h1.user;omega)
theorem rcrash_fit (keep torn : Int) (h : RefAt F w b s M) (hf : Fits s N) (hN : N ≤ 700000) :
  Calls Tryz.prog 60 #[.pointer (some ⟨b,0,none⟩),.int .i64 keep,.int .i64 torn] w fun e w'=>e=.returned (.tuple #[])∧FsPost F M w b (crashM s keep torn) w' :=
 rcrash_any F M b s keep torn w h (by have:=hf.both;omega) (fun o ho=>by have:=(hf.prow o ho).2;omega)
end
set_option maxRecDepth 100000 in
set_option maxHeartbeats 400000 in
theorem tbytes_any (A A2 : Option Addr) (n n2 c c2 : Nat) (bs cs : List UInt8) (w : World) (hn : bs.length = n) (hn2 : cs.length = n2) (h1 : SlV w (.slice A n c) (bs.map bv)) (h2 : SlV w (.slice A2 n2 c2) (cs.map bv)) (t : Bool) (ht : (bs == cs) = t) :
  Calls Tryz.prog 66 #[.slice A n c,.slice A2 n2 c2] w fun e w'=>e=.returned (.bool t)∧w=w':=by
 have k1:=conv_str w A bs n c hn h1
 have k2:=conv_str w A2 cs n2 c2 hn2 h2
 have HT:=Lib.hid ht
 clear ht h1 h2 hn hn2
 go_enter Tryz.func66,Tryz.ntmps66
 go_wp2_with fail
 go_ret
 refine ⟨?_,rfl⟩
 show Ending.returned (.bool ((str bs).toList==(str cs).toList))=_
 rw [str_toList,str_toList,HT.out]
end Go.Proofs.YtlkolcokjmlmjaaGreat.Tx
namespace Go.Proofs.YtlkolcokjmlmjaaGreat.Tx
open Go.RowKit Go.Maps Go.Proofs.YtlkolcokjmlmjaaGreat.Sh
set_option maxRecDepth 100000 in
set_option maxHeartbeats 3200000 in
theorem file_any (m1 t1 m2 t2 : Int) (A A2 : Option Addr) (n n2 c c2 : Nat) (bs cs : List UInt8) (w : World) (hn : bs.length = n) (hn2 : cs.length = n2) (h1 : SlV w (.slice A n c) (bs.map bv)) (h2 : SlV w (.slice A2 n2 c2) (cs.map bv)) :
  Calls Tryz.prog 53 #[.agg #[.int .i64 m1,.slice A n c,.int .i64 t1],.agg #[.int .i64 m2,.slice A2 n2 c2,.int .i64 t2]] w fun e w'=>e=.returned (.bool (decide (m1=m2)&&(decide (t1=t2)&&(bs==cs))))∧Below w.heap.size w w':=by
 have hb1:=(Below.refl w.heap.size w).alloc (Nat.le_refl _) (.cells #[.int .i64 m1,.slice A n c,.int .i64 t1] 91)
 have hb2:=hb1.alloc hb1.size (.cells #[.int .i64 m2,.slice A2 n2 c2,.int .i64 t2] 78)
 have H1:=Lib.hid (h1.below hb2)
 have H2:=Lib.hid (h2.below hb2)
 have HB:=Lib.hid hb2
 have HN:=Lib.hid hn
 have HN2:=Lib.hid hn2
 clear h1 h2 hb1 hb2 hn hn2
 by_cases hm:m1=m2
 ·subst hm
  by_cases ht:t1=t2
  ·subst ht
   go_enter Tryz.func53,Tryz.ntmps53
   go_wp2_with fail
   refine (tbytes_any A A2 n n2 c c2 bs cs _ HN.out HN2.out H1.out H2.out (bs==cs) rfl).mono ?_
   rintro e wb ⟨rfl,rfl⟩
   go_wp2_with fail
   go_ret
   exact ⟨by simp,HB.out⟩
  ·have e1:(t1==t2)=false:=by rw [beq_eq_false_iff_ne];exact ht
   go_enter Tryz.func53,Tryz.ntmps53
   go_wp2_with fail
   go_ret
   exact ⟨by simp [ht],HB.out⟩
 ·have e1:(m1==m2)=false:=by rw [beq_eq_false_iff_ne];exact hm
  go_enter Tryz.func53,Tryz.ntmps53
  go_wp2_with fail
  go_ret
  exact ⟨by simp [hm],HB.out⟩
set_option maxRecDepth 100000 in
set_option maxHeartbeats 1600000 in
theorem texts_any (v v':Value) (xs ys:List ByteArray) (w:World) (h:SlV w v (xs.map sv)) (h':SlV w v' (ys.map sv)):Calls Tryz.prog 16 #[v,v'] w fun e w'=>∃ t,e=.returned (.bool t)∧(t=true↔xs=ys)∧Below w.heap.size w w':=by
 obtain ⟨A,c,rfl,hlc,hcm,hR⟩:=h.len
 obtain ⟨A',c',rfl,hlc',hcm',hR'⟩:=h'.len
 rw [List.length_map] at hlc hR hlc' hR' ⊢
 rw [List.length_map]
 have HR:=Lib.hid hR
 have HR':=Lib.hid hR'
 unfold maxLen at hcm hcm'
 obtain ⟨l,hl⟩:∃ l,xs.length=l:=⟨_,rfl⟩
 obtain ⟨l',hl'⟩:∃ l',ys.length=l':=⟨_,rfl⟩
 rw [hl] at hlc ⊢
 rw [hl'] at hlc' ⊢
 have HL:=Lib.hid hl
 have HL':=Lib.hid hl'
 clear h h' hR hR' hl hl'
 by_cases hll:l=l'
 ·subst hll
  go_enter Tryz.func16,Tryz.ntmps16
  go_wp2
  go_loopw [5] (fun i wr=>∃ k:Nat,k≤l∧i=.int .i64 k∧xs.take k=ys.take k∧Below w.heap.size w wr) (fun i _=>l - (intOf i).toNat)
  case atStart=>exact ⟨0,Nat.zero_le _,rfl,rfl,Below.refl _ _⟩
  case round =>
   obtain ⟨k,hk,rfl,htk,hb⟩:=hrel
   have HB:=Lib.hid hb
   have HTK:=Lib.hid htk
   clear hb htk
   by_cases hlt:k<l
   ·have hkl:k<xs.length:=by rw [HL.out];exact hlt
    have hkl':k<ys.length:=by rw [HL'.out];exact hlt
    obtain ⟨ad,rfl,hcell⟩:=texts_at ((HR.out.below HB.out).more HB.out.size) k hkl
    obtain ⟨ad',rfl,hcell'⟩:=texts_at ((HR'.out.below HB.out).more HB.out.size) k hkl'
    have HX:=Lib.hid (show xs.take (k+1)=xs.take k++[xs[k]] from List.take_succ_eq_append_getElem hkl)
    have HY:=Lib.hid (show ys.take (k+1)=ys.take k++[ys[k]] from List.take_succ_eq_append_getElem hkl')
    have HE:Hid (xs[k]≠ys[k]→xs≠ys):=fun h e=>h (by subst e;rfl)
    generalize xs[k]=x at *
    generalize ys[k]=y at *
    clear hkl hkl'
    have z0:(0:Int)≤(k:Int):=by omega
    have z1:(k:Int)<(l:Int):=by omega
    by_cases he:x=y
    ·subst he
     go_wp2_with fail
     go_quiet (fail)
     go_wp2
     go_roundw
     case rel=>exact ⟨k+1,by omega,by go_num,by rw [HX.out,HY.out,HTK.out],below_drewN HB.out _⟩
     case measure=>simp [intOf];omega
    ·have q1:=toList_ne he
     go_wp2_with fail
     go_quiet (fail)
     go_wp2
     go_ret
     exact ⟨_,rfl,by simpa using HE.out he,below_drewN HB.out _⟩
   ·obtain rfl:k=l:=by omega
    have HXY:Hid (xs=ys):=by
     have h1:=HTK.out
     rw [List.take_of_length_le (by rw [HL.out];exact Nat.le_refl _),List.take_of_length_le (by rw [HL'.out];exact Nat.le_refl _)] at h1
     exact h1
    go_wp2
    go_ret
    exact ⟨_,rfl,by simpa using HXY.out,HB.out⟩
 ·have e1:((l:Int)==(l':Int))=false:=by rw [beq_eq_false_iff_ne];omega
  go_enter Tryz.func16,Tryz.ntmps16
  go_wp2_with fail
  go_ret
  exact ⟨_,rfl,⟨fun h=>by simp at h,fun h=>(hll (by rw [← HL.out,← HL'.out,h])).elim⟩,Below.refl _ _⟩
end Go.Proofs.YtlkolcokjmlmjaaGreat.Tx
namespace Go.Proofs.YtlkolcokjmlmjaaGreat.Tx
open Go.RowKit Go.Maps Go.Proofs.YtlkolcokjmlmjaaGreat.Sh
set_option maxRecDepth 100000 in
set_option maxHeartbeats 400000 in
theorem rcopyb_big (v:Value) (bs:List UInt8) (w:World) (h:SlV w v (bs.map bv)) (hn:bs.length≤140737488355328):Calls Tryz.prog 46 #[v] w fun e w'=>∃ v',e=.returned v'∧OwnV 5 w' w.heap.size v' (bs.map bv)∧Below w.heap.size w w':=by
 obtain ⟨A,c,rfl,hlc,hcm,hR⟩:=(h.below ((Below.refl w.heap.size w).alloc (Nat.le_refl _) (.cells #[] 5))).len
 rw [List.length_map] at hlc hR ⊢
 have hown:OwnV 5 (w.alloc (.cells #[] 5)) w.heap.size (.slice (some ⟨w.heap.size,0,none⟩) 0 0) (([]:List UInt8).map bv):=World.ownsRow_made w #[] 0 (Nat.le_refl _) (by unfold maxLen;omega) rfl
 obtain ⟨l,hl⟩:∃ l,bs.length=l:=⟨_,rfl⟩
 rw [hl] at hR hn ⊢
 have hsm:([]:List UInt8).length+l≤140737488355328:=by simp;omega
 have hz:w.heap.size≤(w.alloc (.cells #[] 5)).heap.size:=by simp
 have HR:=Lib.hid hR
 have HOWN:=Lib.hid hown
 clear hR hown hl h hlc hcm
 go_enter Tryz.func46,Tryz.ntmps46
 go_wp2_with (at_builtin;refine append_bytes rfl (.tmp 3) (.tmp 4) rfl _ w.heap.size (.slice (some ⟨w.heap.size,0,none⟩) 0 0) [] rfl HOWN.out _ A l c bs rfl HR.out hsm hz ?_;intro v3 w3 ho3 hb3;have HO:=Lib.hid ho3;have HB:=Lib.hid hb3;clear ho3 hb3)
 go_ret
 refine ⟨v3,rfl,?_,((Below.refl _ _).alloc (Nat.le_refl _) _).trans HB.out⟩
 simpa using HO.out
section
variable {F M Mf Mx G:Nat→Prop} {w w1 w2:World} {b d:Nat} {c c':CSt} {s s':FSM}
theorem FsPost.then_below (h:FsPost F M w d s' w1) (hb:Below w1.heap.size w1 w2):FsPost F M w d s' w2:=by
 obtain ⟨M2,h1,h3,h4⟩:=h
 exact FsPost.trans h3 h4 (FsPost.of_below hb (FsPost.refl (h1.below hb)))
end
end Go.Proofs.YtlkolcokjmlmjaaGreat.Tx
set_option linter.unusedVariables false
set_option linter.unusedSimpArgs false
namespace Go.Proofs.YtlkolcokjmlmjaaGreat.Tx
open Go.RowKit Go.Maps Go.Proofs.YtlkolcokjmlmjaaGreat.Sh
structure TwoS (F:Nat→Prop) (w:World) (b:Nat) (c:CSt) (d:Nat) (st:FSM) (Ff Fx Mf Mx:Nat→Prop):Prop where
 f:FcAt Ff w b c Mf
 x:RefAt Fx w d st Mx
 apart:∀ k,Mf k→¬ Mx k
 fx:∀ k,Ff k→¬ Mx k
 xf:∀ k,Fx k→¬ Mf k
 ff:∀ k,F k→Ff k
 gg:∀ k,F k→Fx k
 sep:∀ k,Ff k→Fx k→F k
def TwoA (F:Nat→Prop) (w:World) (b:Nat) (c:CSt) (d:Nat) (st:FSM) (M:Nat→Prop):Prop:=∃ Ff Fx Mf Mx,TwoS F w b c d st Ff Fx Mf Mx∧∀ k,M k↔Mf k∨Mx k∨((Ff k∨Fx k)∧¬ F k)
def TwoQ (F M:Nat→Prop) (w:World) (b:Nat) (c:CSt) (d:Nat) (st:FSM) (w':World):Prop:=∃ M',TwoA F w' b c d st M'∧Only M w w'∧∀ k,M' k→M k∨w.heap.size≤k
theorem RefAt.low' {F M:Nat→Prop} {w:World} {b:Nat} {st:FSM} (h:RefAt F w b st M) (k:Nat) (hk:F k):k<w.heap.size:=by
 obtain ⟨x,h1,h2⟩:=h
 exact h1.low k hk
section
variable {F M Mf Mx Ff Fx Z:Nat→Prop} {w w1 w2 w3 w':World} {b d:Nat} {c c':CSt} {st st' s s':FSM}
theorem TwoA.lt (h:TwoA F w b c d st M) (k:Nat) (hk:M k):k<w.heap.size:=by
 obtain ⟨Ff,Fx,Mf,Mx,h1,h2⟩:=h
 rcases (h2 k).1 hk with h3 | h3 | ⟨h3 | h3,_⟩
 ·exact h1.f.lt k h3
 ·exact h1.x.mlt k h3
 ·exact h1.f.low k h3
 ·exact h1.x.low' k h3
theorem TwoA.low (h:TwoA F w b c d st M) (k:Nat) (hk:F k):k<w.heap.size:=by
 obtain ⟨Ff,Fx,Mf,Mx,h1,h2⟩:=h
 exact h1.f.low k (h1.ff k hk)
theorem TwoA.apart_ (h:TwoA F w b c d st M) (k:Nat) (hk:F k):¬ M k:=by
 obtain ⟨Ff,Fx,Mf,Mx,h1,h2⟩:=h
 intro hm
 rcases (h2 k).1 hm with h3 | h3 | ⟨_,h3⟩
 ·exact h1.f.apart_ k (h1.ff k hk) h3
 ·exact h1.x.apart_ k (h1.gg k hk) h3
 ·exact h3 hk
theorem TwoS.below (h:TwoS F w b c d st Ff Fx Mf Mx) (hb:Below w.heap.size w w'):TwoS F w' b c d st Ff Fx Mf Mx :=
 ⟨h.f.below hb,h.x.below hb,h.apart,h.fx,h.xf,h.ff,h.gg,h.sep⟩
theorem TwoS.only (h:TwoS F w b c d st Ff Fx Mf Mx) (ho:Only Z w w') (h1:∀ k,Z k→¬ Ff k∧¬ Fx k∧¬ Mf k∧¬ Mx k):TwoS F w' b c d st Ff Fx Mf Mx :=
 ⟨h.f.only ho (fun k hk hz=>(h1 k hz).1 hk) (fun k hk hz=>(h1 k hz).2.2.1 hk),h.x.only ho (fun k hk hz=>(h1 k hz).2.1 hk) (fun k hk hz=>(h1 k hz).2.2.2 hk),h.apart,h.fx,h.xf,h.ff,h.gg,h.sep⟩
theorem TwoA.below (h:TwoA F w b c d st M) (hb:Below w.heap.size w w'):TwoA F w' b c d st M:=by
 obtain ⟨Ff,Fx,Mf,Mx,h1,h2⟩:=h
 exact ⟨Ff,Fx,Mf,Mx,h1.below hb,h2⟩
theorem TwoQ.refl (h:TwoA F w b c d st M):TwoQ F M w b c d st w:=⟨M,h,Only.refl M w,fun _ hk=>.inl hk⟩
theorem TwoQ.trans {M1:Nat→Prop} (h01:Only M w w1) (hM:∀ k,M1 k→M k∨w.heap.size≤k) (h:TwoQ F M1 w1 b c' d st' w2):TwoQ F M w b c' d st' w2:=by
 obtain ⟨M2,h2,h3,h4⟩:=h
 exact ⟨M2,h2,h01.trans h3 hM,fun k hk=>by
  rcases h4 k hk with h5 | h5
  ·exact hM k h5
  ·have:=h01.size;right;omega⟩
theorem TwoQ.of_below (hb:Below w.heap.size w w1) (h:TwoQ F M w1 b c' d st' w2):TwoQ F M w b c' d st' w2:=by
 obtain ⟨M2,h2,h3,h4⟩:=h
 have hz:=hb.size
 exact ⟨M2,h2,(Only.of_below hb).trans h3 (fun _ hk=>.inl hk),fun k hk=>(h4 k hk).imp id (fun h=>by omega)⟩
theorem TwoQ.then_below (h:TwoQ F M w b c' d st' w1) (hb:Below w1.heap.size w1 w2):TwoQ F M w b c' d st' w2:=by
 obtain ⟨M1,h1,h3,h4⟩:=h
 exact ⟨M1,h1.below hb,h3.then_below hb,h4⟩
theorem TwoS.step_f (h:TwoS F w b c d st Ff Fx Mf Mx) (hp:FcPost Ff Mf w b c' w'):∃ Ff' Mf',TwoS F w' b c' d st Ff' Fx Mf' Mx∧Only Mf w w'∧(∀ k,Mf' k→Mf k∨w.heap.size≤k)∧∀ k,Ff' k→Ff k∨w.heap.size≤k:=by
 obtain ⟨M1,h1,h2,h3⟩:=hp
 refine ⟨grow Ff w w' M1,M1,⟨h1,h.x.only h2 (fun k hk=>h.xf k hk) (fun k hk hf=>h.apart k hf hk),fun k hk hx=>?_,fun k hk hx=>?_,fun k hk hm=>?_,fun k hk=>.inl (h.ff k hk),h.gg,fun k hk hx=>?_⟩,h2,h3,fun k hk=>hk.imp id (fun h=>h.1)⟩
 ·rcases h3 k hk with h4 | h4
  ·exact h.apart k h4 hx
  ·have:=h.x.mlt k hx;omega
 ·rcases hk with hk | ⟨g1,_,_⟩
  ·exact h.fx k hk hx
  ·have:=h.x.mlt k hx;omega
 ·rcases h3 k hm with h4 | h4
  ·exact h.xf k hk h4
  ·have:=h.x.low' k hk;omega
 ·rcases hk with hk | ⟨g1,_,_⟩
  ·exact h.sep k hk hx
  ·have:=h.x.low' k hx;omega
theorem TwoS.step_x (h:TwoS F w b c d st Ff Fx Mf Mx) (hp:FsPost Fx Mx w d st' w'):∃ Fx' Mx',TwoS F w' b c d st' Ff Fx' Mf Mx'∧Only Mx w w'∧(∀ k,Mx' k→Mx k∨w.heap.size≤k)∧∀ k,Fx' k→Fx k∨w.heap.size≤k:=by
 obtain ⟨M1,h1,h2,h3⟩:=hp
 refine ⟨grow Fx w w' M1,M1,⟨h.f.only h2 (fun k hk=>h.fx k hk) (fun k hk hf=>h.apart k hk hf),h1,fun k hk hx=>?_,fun k hk hx=>?_,fun k hk hm=>?_,h.ff,fun k hk=>.inl (h.gg k hk),fun k hk hx=>?_⟩,h2,h3,fun k hk=>hk.imp id (fun h=>h.1)⟩
 ·rcases h3 k hx with h4 | h4
  ·exact h.apart k hk h4
  ·have:=h.f.lt k hk;omega
 ·rcases h3 k hx with h4 | h4
  ·exact h.fx k hk h4
  ·have:=h.f.low k hk;omega
 ·rcases hk with hk | ⟨g1,_,_⟩
  ·exact h.xf k hk hm
  ·have:=h.f.lt k hm;omega
 ·rcases hx with hx | ⟨g1,_,_⟩
  ·exact h.sep k hk hx
  ·have:=h.f.low k hk;omega
theorem TwoQ.of_f (h:TwoS F w b c d st Ff Fx Mf Mx) (hp:FcPost Ff Mf w b c' w') (hM:∀ k,M k↔Mf k∨Mx k∨((Ff k∨Fx k)∧¬ F k)):TwoQ F M w b c' d st w':=by
 obtain ⟨Ff',Mf',g1,g2,g3,g4⟩:=h.step_f hp
 exact ⟨fun k=>Mf' k∨Mx k∨((Ff' k∨Fx k)∧¬ F k),⟨Ff',Fx,Mf',Mx,g1,fun _=>Iff.rfl⟩,g2.more (fun k _ hk=>(hM k).2 (.inl hk)),fun k hk=>by
  rcases hk with hk | hk | ⟨hk | hk,hf⟩
  ·exact (g3 k hk).imp (fun h=>(hM k).2 (.inl h)) id
  ·exact .inl ((hM k).2 (.inr (.inl hk)))
  ·exact (g4 k hk).imp (fun h=>(hM k).2 (.inr (.inr ⟨.inl h,hf⟩))) id
  ·exact .inl ((hM k).2 (.inr (.inr ⟨.inr hk,hf⟩)))⟩
theorem TwoQ.of_x (h:TwoS F w b c d st Ff Fx Mf Mx) (hp:FsPost Fx Mx w d st' w') (hM:∀ k,M k↔Mf k∨Mx k∨((Ff k∨Fx k)∧¬ F k)):TwoQ F M w b c d st' w':=by
 obtain ⟨Fx',Mx',g1,g2,g3,g4⟩:=h.step_x hp
 exact ⟨fun k=>Mf k∨Mx' k∨((Ff k∨Fx' k)∧¬ F k),⟨Ff,Fx',Mf,Mx',g1,fun _=>Iff.rfl⟩,g2.more (fun k _ hk=>(hM k).2 (.inr (.inl hk))),fun k hk=>by
  rcases hk with hk | hk | ⟨hk | hk,hf⟩
  ·exact .inl ((hM k).2 (.inl hk))
  ·exact (g3 k hk).imp (fun h=>(hM k).2 (.inr (.inl h))) id
  ·exact .inl ((hM k).2 (.inr (.inr ⟨.inl hk,hf⟩)))
  ·exact (g4 k hk).imp (fun h=>(hM k).2 (.inr (.inr ⟨.inr h,hf⟩))) id⟩
theorem TwoQ.open_f {c0 : CSt} {s0 : FSM} (h : TwoQ F M w b c d s w1) (h0 : TwoA F w b c0 d s0 M) :
  ∃ F1 Mf Mx,FcAt F1 w1 b c Mf∧(Mx=fun _:Nat=>True)∧(∀ k,Mf k→M k∨w.heap.size≤k)∧True∧Only M w w1∧(∀ {c' w2},FcPost F1 Mf w1 b c' w2→TwoQ F M w b c' d s w2)∧True:=by
 obtain ⟨M1,⟨Ff,Fx,Mf,Mx,h1,h2⟩,h3,h4⟩:=h
 exact ⟨Ff,Mf,_,h1.f,rfl,fun k hk=>h4 k ((h2 k).2 (.inl hk)),trivial,h3,fun hp=>TwoQ.trans h3 h4 (TwoQ.of_f h1 hp h2),trivial⟩
theorem TwoQ.open_x {c0 : CSt} {s0 : FSM} (h : TwoQ F M w b c d s w1) (h0 : TwoA F w b c0 d s0 M) :
  ∃ F1 Mf Mx,(Mf=fun _:Nat=>True)∧RefAt F1 w1 d s Mx∧True∧(∀ k,Mx k→M k∨w.heap.size≤k)∧Only M w w1∧True∧(∀ {s' w2},FsPost F1 Mx w1 d s' w2→TwoQ F M w b c d s' w2):=by
 obtain ⟨M1,⟨Ff,Fx,Mf,Mx,h1,h2⟩,h3,h4⟩:=h
 exact ⟨Fx,_,Mx,rfl,h1.x,trivial,fun k hk=>h4 k ((h2 k).2 (.inr (.inl hk))),h3,trivial,fun hp=>TwoQ.trans h3 h4 (TwoQ.of_x h1 hp h2)⟩
theorem TwoS.later (h:TwoS F w b c d s Ff Fx Mf Mx) (hp:FcPost Ff Mf w b c' w1):RefAt Fx w1 d s Mx:=by
 obtain ⟨M1,_,h2,_⟩:=hp
 exact h.x.only h2 (fun k hk=>h.xf k hk) (fun k hk hf=>h.apart k hf hk)
theorem twoq_both (h:TwoS F w b c d s Ff Fx Mf Mx) (hM:∀ k,M k↔Mf k∨Mx k∨((Ff k∨Fx k)∧¬ F k)) (hp:FcPost Ff Mf w b c' w1) (hq:FsPost Fx Mx w1 d s' w2):TwoQ F M w b c' d s' w2:=by
 obtain ⟨Ff',Mf',g1,g2,g3,g4⟩:=h.step_f hp
 refine TwoQ.trans (M1:=fun k=>Mf' k∨Mx k∨((Ff' k∨Fx k)∧¬ F k)) (g2.more (fun k _ hk=>(hM k).2 (.inl hk))) (fun k hk=>?_) (TwoQ.of_x g1 hq (fun _=>Iff.rfl))
 rcases hk with hk | hk | ⟨hk | hk,hf⟩
 ·exact (g3 k hk).imp (fun h=>(hM k).2 (.inl h)) id
 ·exact .inl ((hM k).2 (.inr (.inl hk)))
 ·exact (g4 k hk).imp (fun h=>(hM k).2 (.inr (.inr ⟨.inl h,hf⟩))) id
 ·exact .inl ((hM k).2 (.inr (.inr ⟨.inr hk,hf⟩)))
theorem TwoQ.around (h0:TwoA F w b c d st M) (hb:Below w.heap.size w w1) (h:TwoQ F M w1 b c' d st' w2) (ho:Only Z w2 w3) (hZ:∀ k,Z k→w.heap.size≤k∧k<w1.heap.size):TwoQ F M w b c' d st' w3:=by
 obtain ⟨M2,⟨Ff,Fx,Mf,Mx,h1,h2⟩,h3,h4⟩:=h
 have hz:=hb.size
 have no:∀ k,Z k→¬ M2 k:=fun k hk hm=>by
  obtain ⟨e1,e2⟩:=hZ k hk
  rcases h4 k hm with h5 | h5
  ·have:=h0.lt k h5;omega
  ·omega
 have nf:∀ k,Z k→¬ F k:=fun k hk hf=>by
  have:=h0.low k hf
  have:=(hZ k hk).1
  omega
 refine ⟨M2,⟨Ff,Fx,Mf,Mx,h1.only ho (fun k hk=>⟨fun hm=>no k hk ((h2 k).2 (.inr (.inr ⟨.inl hm,nf k hk⟩))),fun hm=>no k hk ((h2 k).2 (.inr (.inr ⟨.inr hm,nf k hk⟩))),fun hm=>no k hk ((h2 k).2 (.inl hm)),fun hm=>no k hk ((h2 k).2 (.inr (.inl hm)))⟩),h2⟩,((Only.of_below hb).trans h3 (fun _ hk=>.inl hk)).trans ho (fun k hk=>.inr (hZ k hk).1),fun k hk=>(h4 k hk).imp id (fun h=>by omega)⟩
end
end Go.Proofs.YtlkolcokjmlmjaaGreat.Tx
