/- Texts put together: VShW1, VShW2, VShH0. -/
import Derived.Test.YtlkolcokjmlmjaaGreatQv23
import Derived.Test.YtlkolcokjmlmjaaGreatQv01
namespace Go.Proofs.YtlkolcokjmlmjaaGreat.Sh
open Go.RowKit
def wv (u:UInt32):Value:=.int .u32 (wi u)
def bv (u:UInt8):Value:=.int .u8 (bi u)
def Sch (bs:List UInt8) (w:World) (g n:Nat):Prop :=
 ∃ cs,Blk w g 186 cs∧cs.size=64∧(∀ j,j<n→cs[j]?=some (wv (wd bs j)))∧∀ j,j<64→∃ u,cs[j]?=some (.int .u32 u)
theorem sch_set {bs : List UInt8} {w : World} {g k : Nat} {cs : Array Value} (h : Blk w g 186 cs) (hz : cs.size = 64) (hd : ∀ j, j < k → cs[j]? = some (wv (wd bs j)))
  (hi:∀ j,j<64→∃ u,cs[j]?=some (.int .u32 u)) (hk:k<64) (u:UInt32) (hu:u=wd bs k):Sch bs ((w.setCell ⟨g,k,none⟩ (.int .u32 (wi u))).drew) g (k+1):=by
 rw [hu]
 have hb:Blk ((w.setCell ⟨g,k,none⟩ (.int .u32 (wi (wd bs k)))).drew) g 186 (cs.setIfInBounds k (.int .u32 (wi (wd bs k)))):=Blk.drew (h.set_ k _)
 have hget:∀ j,(cs.setIfInBounds k (.int .u32 (wi (wd bs k))))[j]?=if k=j then some (wv (wd bs k)) else cs[j]?:=by
  intro j
  rw [Array.getElem?_setIfInBounds]
  by_cases e:k=j
  ·subst e;rw [if_pos rfl,if_pos (by omega),if_pos rfl];rfl
  ·rw [if_neg e,if_neg e]
 unfold Sch
 refine Exists.intro _ (And.intro hb (And.intro ?_ (And.intro ?_ ?_)))
 ·rw [Array.size_setIfInBounds];exact hz
 ·intro j hj
  rw [hget]
  by_cases e:k=j
  ·subst e;rw [if_pos rfl]
  ·rw [if_neg e];exact hd j (by omega)
 ·intro j hj
  rw [hget]
  by_cases e:k=j
  ·subst e;rw [if_pos rfl];exact ⟨_,rfl⟩
  ·rw [if_neg e];exact hi j hj
theorem sch_set' {bs : List UInt8} {w : World} {g k : Nat} {cs : Array Value} (h : Blk w g 186 cs) (hz : cs.size = 64) (hd : ∀ j, j < k → cs[j]? = some (wv (wd bs j)))
  (hi:∀ j,j<64→∃ u,cs[j]?=some (.int .u32 u)) (hk:k<64) (u:UInt32) (hu:u=wd bs k) (n:Nat):Sch bs ((w.drewN n).setCell ⟨g,k,none⟩ (.int .u32 (wi u))) g (k+1) :=
 sch_set (w:=w.drewN n) (h.drewN n) hz hd hi hk u hu
def isWord:Value→Bool
 | .int .u32 _=>true
 | _=>false
theorem isWord_of {v:Value} (h:isWord v=true):∃ u,v=.int .u32 u:=by
 unfold isWord at h
 split at h
 ·exact ⟨_,rfl⟩
 ·cases h
theorem sch_zero {bs:List UInt8} {w:World} {g:Nat} (cs:Array Value) (h:Blk w g 186 cs) (hz:cs.size=64) (ha:cs.toList.all isWord=true):Sch bs w g 0:=by
 unfold Sch
 refine Exists.intro cs (And.intro h (And.intro hz (And.intro (fun j hj=>by omega) (fun j hj=>?_))))
 have hm:cs[j]?=some cs[j]:=Array.getElem?_eq_getElem (by omega)
 have:=List.all_eq_true.1 ha cs[j] (by simp)
 obtain ⟨u,hu⟩:=isWord_of this
 exact ⟨u,by rw [hm,hu]⟩
theorem words_size (bs:List UInt8):((words bs 64).map wv).toArray.size=64:=by simp [words_length]
theorem words_one (bs:List UInt8):((words bs 64).map wv).toArray.all (·.oneCell')=true:=by
 rw [Array.all_eq_true_iff_forall_mem]
 intro v hv
 simp only [List.mem_toArray,List.mem_map] at hv
 obtain ⟨u,_,rfl⟩:=hv
 rfl
theorem info64:(Tryz.prog.info? 186).map (·.size)=some 64:=by kernel_rfl
theorem size64 (bs:List UInt8):(Tryz.prog.info? 186).map (·.size)=some ((words bs 64).map wv).toArray.size:=by rw [words_size];exact info64
theorem sch_all {bs:List UInt8} {w:World} {g:Nat} (h:Sch bs w g 64):Blk w g 186 ((words bs 64).map wv).toArray:=by
 unfold Sch at h
 obtain ⟨cs,hb,hz,hd,_⟩:=h
 have hl:=words_length bs 64
 have:cs=((words bs 64).map wv).toArray:=by
  apply Array.ext
  ·simp [hz,hl]
  ·intro j h1 h2
   have h3:=hd j (by omega)
   rw [Array.getElem?_eq_getElem h1] at h3
   injection h3 with h3
   rw [h3,wd_def]
   simp [List.getD_eq_getElem?_getD,hl,show j<64 by omega]
 rw [← this];exact hb
theorem keep1 {w:World} {g i k n:Nat} {x y:Value} (hne:i≠k) (h:w.cell? ⟨g,i,none⟩=some x):((w.drewN n).setCell ⟨g,k,none⟩ y).cell? ⟨g,i,none⟩=some x:=by
 rw [World.cell?_setCell_other _ _ _ _ (by intro e;injection e with _ e2;exact hne e2.symm)]
 exact h
theorem keep4 (w : World) (g i1 i2 i3 i4 k n : Nat) (x1 x2 x3 x4 : Value) (y : Value) (n1 : i1 ≠ k) (n2 : i2 ≠ k) (n3 : i3 ≠ k) (n4 : i4 ≠ k)
  (h1:w.cell? ⟨g,i1,none⟩=some x1) (h2:w.cell? ⟨g,i2,none⟩=some x2) (h3:w.cell? ⟨g,i3,none⟩=some x3) (h4:w.cell? ⟨g,i4,none⟩=some x4) :
  ((w.drewN n).setCell ⟨g,k,none⟩ y).cell? ⟨g,i1,none⟩=some x1∧((w.drewN n).setCell ⟨g,k,none⟩ y).cell? ⟨g,i2,none⟩=some x2∧((w.drewN n).setCell ⟨g,k,none⟩ y).cell? ⟨g,i3,none⟩=some x3∧((w.drewN n).setCell ⟨g,k,none⟩ y).cell? ⟨g,i4,none⟩=some x4 :=
 ⟨keep1 n1 h1,keep1 n2 h2,keep1 n3 h3,keep1 n4 h4⟩
set_option maxRecDepth 100000 in
set_option maxHeartbeats 800000 in
theorem sched_any (ad : Addr) (cap : Nat) (bs : List UInt8) (w : World) (hcap : 64 ≤ cap) (hcap2 : cap ≤ maxLen) (hb : ad.block < w.heap.size)
  (hc:∀ k,k<64→w.cell? (ad.add k)=some (.int .u8 (bi (bs.getD k 0)))) :
  Calls Tryz.prog 167 #[.slice (some ad) 64 cap] w fun e w'=>e=.returned (.agg ((words bs 64).map wv).toArray)∧Below w.heap.size w w':=by
 unfold maxLen at hcap2
 go_enter Tryz.func167,Tryz.ntmps167
 go_wp2
 go_loopw [7] (fun i wr=>∃ k:Nat,k≤16∧i=.int .i64 k∧Sch bs wr (w.heap.size+1) k∧(∃ cs,Blk wr w.heap.size 186 cs∧cs.size=64)∧Below w.heap.size w wr) (fun i _=>16 - (intOf i).toNat)
 case atStart =>
  refine ⟨0,by omega,rfl,?_,?_,((Below.refl _ _).alloc (Nat.le_refl _) _).alloc (by simp) _⟩
  ·refine sch_zero _ (heap_alloc2_new _ _ _) rfl rfl
  ·exact ⟨_,heap_alloc2_old _ _ _,rfl⟩
 case round =>
  obtain ⟨k,hk,rfl,hs,ho,hbl⟩:=hrel
  by_cases hlt:k<16
  ·have hcw:∀ i,i<64→wr.cell? (ad.add i)=some (.int .u8 (bi (bs.getD i 0))):=fun i hi=>(hbl.cell (p:=ad.add i) (by rw [block_of_add];exact hb)).trans (hc i hi)
   have c0:wr.cell? (ad.add (4*k))=some (.int .u8 (bi (bs.getD (4*k) 0))):=hcw _ (by omega)
   have c1:wr.cell? ⟨(ad.add (4*k)).block,(ad.add (4*k)).off+1,none⟩=some (.int .u8 (bi (bs.getD (4*k+1) 0))):=by rw [← add_at _ 1 (by omega),add_of_add];exact hcw _ (by omega)
   have c2:wr.cell? ⟨(ad.add (4*k)).block,(ad.add (4*k)).off+2,none⟩=some (.int .u8 (bi (bs.getD (4*k+2) 0))):=by rw [← add_at _ 2 (by omega),add_of_add];exact hcw _ (by omega)
   have c3:wr.cell? ⟨(ad.add (4*k)).block,(ad.add (4*k)).off+3,none⟩=some (.int .u8 (bi (bs.getD (4*k+3) 0))):=by rw [← add_at _ 3 (by omega),add_of_add];exact hcw _ (by omega)
   have hL:4*k+4 - 4*k=4:=by omega
   generalize hb0:bs.getD (4*k) 0=b0 at c0
   generalize hb1:bs.getD (4*k+1) 0=b1 at c1
   generalize hb2:bs.getD (4*k+2) 0=b2 at c2
   generalize hb3:bs.getD (4*k+3) 0=b3 at c3
   have H0:=Lib.hid hb0
   have H1:=Lib.hid hb1
   have H2:=Lib.hid hb2
   have H3:=Lib.hid hb3
   clear hb0 hb1 hb2 hb3 hcw
   go_wp2
   have x0:=wbyte b0
   have x1:=wbyte b1
   have x2:=wbyte b2
   have x3:=wbyte b3
   have s0:IntKind.u32.wrap (wi b0.toUInt32*16777216)=wi (shlw b0.toUInt32 24):=wshl b0.toUInt32 24 (by omega)
   have s1:IntKind.u32.wrap (wi b1.toUInt32*65536)=wi (shlw b1.toUInt32 16):=wshl b1.toUInt32 16 (by omega)
   have s2:IntKind.u32.wrap (wi b2.toUInt32*256)=wi (shlw b2.toUInt32 8):=wshl b2.toUInt32 8 (by omega)
   have o1:=wor (shlw b0.toUInt32 24) (shlw b1.toUInt32 16)
   have o2:=wor (shlw b0.toUInt32 24 ||| shlw b1.toUInt32 16) (shlw b2.toUInt32 8)
   have o3:=wor (shlw b0.toUInt32 24 ||| shlw b1.toUInt32 16 ||| shlw b2.toUInt32 8) b3.toUInt32
   have hsum:Hid (shlw b0.toUInt32 24 ||| shlw b1.toUInt32 16 ||| shlw b2.toUInt32 8 ||| b3.toUInt32=wd bs k):=by
    unfold Hid;rw [wd_lo bs k hlt];unfold wordAt;rw [H0.out,H1.out,H2.out,H3.out]
   obtain ⟨cs,hcs,hsz,hdone,hint⟩:=hs
   obtain ⟨u0,hu0⟩:=hint k (by omega)
   have hcell:wr.cell? ⟨w.heap.size+1,k,none⟩=some (.int .u32 u0):=by rw [hcs.cell];exact hu0
   have hfro:wr.frozen? ⟨w.heap.size+1,k,none⟩=false:=hcs.frozen k
   have HD:=Lib.hid hdone
   have HI:=Lib.hid hint
   have HZ:=Lib.hid hsz
   clear hdone hint hu0 hsz
   have hk1:(k:Int)<64:=by omega
   have hk2:0≤(k:Int):=by omega
   go_still_tail 24,(by kernel_rfl)
   clear s0 s1 s2 o1 o2 o3 x0 x1 x2 x3
   change wpList _ _ _ _ _ wr.drew
   go_wp2
   go_roundw
   case rel =>
    exact ⟨k+1,by omega,by go_num,sch_set hcs HZ.out HD.out HI.out (by omega) _ hsum.out,(by obtain ⟨cs',h1,h2⟩:=ho;exact ⟨cs',(h1.far (by simp) _).drew,h2⟩),(hbl.setCell (by simp) _).drew⟩
   case measure=>simp [intOf];omega
  ·have hs16:Sch bs wr (w.heap.size+1) 16:=by rw [show 16=k from by omega];exact hs
   clear hs
   obtain ⟨k0,rfl⟩:∃ k0:Nat,k0=k:=⟨_,rfl⟩
   go_wp2
   obtain ⟨wo,rfl⟩:∃ wo:World,wo=wr:=⟨_,rfl⟩
   go_loopw [6] (fun i wr=>∃ k:Nat,16≤k∧k≤64∧i=.int .i64 k∧Sch bs wr (w.heap.size+1) k∧(∃ cs,Blk wr w.heap.size 186 cs∧cs.size=64)∧Below w.heap.size w wr) (fun i _=>64 - (intOf i).toNat)
   case atStart =>
    exact ⟨16,by omega,by omega,rfl,hs16,ho,hbl⟩
   case round =>
    obtain ⟨k,hk16,hk64,rfl,hs,ho,hbl⟩:=hrel
    by_cases hlt:k<64
    ·obtain ⟨cs,hcs,hsz,hdone,hint⟩:=hs
     obtain ⟨u0,hu0⟩:=hint k (by omega)
     have hcell:wr.cell? ⟨w.heap.size+1,k,none⟩=some (.int .u32 u0):=by rw [hcs.cell];exact hu0
     have hfro:wr.frozen? ⟨w.heap.size+1,k,none⟩=false:=hcs.frozen k
     have c16:wr.cell? ⟨w.heap.size+1,k - 16,none⟩=some (.int .u32 (wi (wd bs (k - 16)))):=by rw [hcs.cell];exact hdone _ (by omega)
     have c7:wr.cell? ⟨w.heap.size+1,k - 7,none⟩=some (.int .u32 (wi (wd bs (k - 7)))):=by rw [hcs.cell];exact hdone _ (by omega)
     have c15:wr.cell? ⟨w.heap.size+1,k - 15,none⟩=some (.int .u32 (wi (wd bs (k - 15)))):=by rw [hcs.cell];exact hdone _ (by omega)
     have c2:wr.cell? ⟨w.heap.size+1,k - 2,none⟩=some (.int .u32 (wi (wd bs (k - 2)))):=by rw [hcs.cell];exact hdone _ (by omega)
     have hlast:=Lib.hid (wd_hi bs k hk16 hlt)
     generalize wd bs (k - 16)=u16 at *
     generalize wd bs (k - 7)=u7 at *
     generalize wd bs (k - 15)=u15 at *
     generalize wd bs (k - 2)=u2 at *
     have HD:=Lib.hid hdone
     have HI:=Lib.hid hint
     have HZ:=Lib.hid hsz
     clear hdone hint hu0 hsz
     have hi1:(k:Int)<64:=by omega
     have hi2:(k:Int) - 16<64:=by omega
     have hi3:(k:Int) - 7<64:=by omega
     have hi4:(k:Int) - 15<64:=by omega
     have hi5:(k:Int) - 2<64:=by omega
     have hj1:(0:Int)≤k:=by omega
     have hj2:0≤(k:Int) - 16:=by omega
     have hj3:0≤(k:Int) - 7:=by omega
     have hj4:0≤(k:Int) - 15:=by omega
     have hj5:0≤(k:Int) - 2:=by omega
     have ne1:k - 16≠k:=by omega
     have ne2:k - 7≠k:=by omega
     have ne3:k - 15≠k:=by omega
     have ne4:k - 2≠k:=by omega
     go_wp2
     have e1:IntKind.i64.wrap ((k:Int) - 16)=(k:Int) - 16:=IntWalk.i64_in _ (by omega)
     have e2:IntKind.i64.wrap ((k:Int) - 7)=(k:Int) - 7:=IntWalk.i64_in _ (by omega)
     have e3:IntKind.i64.wrap ((k:Int) - 15)=(k:Int) - 15:=IntWalk.i64_in _ (by omega)
     have e4:IntKind.i64.wrap ((k:Int) - 2)=(k:Int) - 2:=IntWalk.i64_in _ (by omega)
     have q1:(16:Int)≤k:=by omega
     have q2:(7:Int)≤k:=by omega
     have q3:(15:Int)≤k:=by omega
     have q4:(2:Int)≤k:=by omega
     have q5:(k:Int)<80:=by omega
     have q6:(k:Int)<71:=by omega
     have q7:(k:Int)<79:=by omega
     have q8:(k:Int)<66:=by omega
     have f1:((k:Int) - 16).toNat=k - 16:=by omega
     have f2:((k:Int) - 7).toNat=k - 7:=by omega
     have f3:((k:Int) - 15).toNat=k - 15:=by omega
     have f4:((k:Int) - 2).toNat=k - 2:=by omega
     have a1:=wadd u16 u7
     have a2:=wadd (u16+u7) (rots u15 25 14 3)
     have a3:=wadd (u16+u7+rots u15 25 14 3) (rots u2 15 13 10)
     go_region_held3 (fun w'=>w'.cell? ⟨w.heap.size+1,k - 16,none⟩=some (.int .u32 (wi u16))∧w'.cell? ⟨w.heap.size+1,k - 7,none⟩=some (.int .u32 (wi u7))∧w'.cell? ⟨w.heap.size+1,k - 15,none⟩=some (.int .u32 (wi u15))∧w'.cell? ⟨w.heap.size+1,k - 2,none⟩=some (.int .u32 (wi u2))) (first | go_keep | exact keep4 _ _ _ _ _ _ _ _ _ _ _ _ _ (by omega) (by omega) (by omega) (by omega) c16 c7 c15 c2)
      (first
       | (go_at_call_of 176 (Value.int .i64 18);refine (shifted_any u15 7 18 3 25 14 3 (by omega) (by omega) rfl (by rfl) (by rfl) (by omega) _).mono ?_;rintro e w' ⟨rfl,nq,rfl⟩)
       | (go_at_call_of 176 (Value.int .i64 19);refine (shifted_any u2 17 19 10 15 13 10 (by omega) (by omega) rfl (by rfl) (by rfl) (by omega) _).mono ?_;rintro e w' ⟨rfl,nq,rfl⟩))
     go_wp2
     go_roundw
     case rel =>
      exact ⟨k+1,by omega,by omega,by go_num,sch_set' hcs HZ.out HD.out HI.out hlt _ hlast.out.symm _,(by obtain ⟨cs',h1,h2⟩:=ho;exact ⟨cs',(h1.drewN _).far (by simp) _,h2⟩),(below_drewN hbl _).setCell (by simp) _⟩
     case measure=>simp [intOf];omega
    ·obtain rfl:k=64:=by omega
     have hB:=sch_all hs
     obtain ⟨co,ho1,ho2⟩:=ho
     have HO:=Lib.hid ho2
     clear ho2
     go_wp2_with (first
      | (refine wpList_load_row rfl 186 (.tmp 3) rfl (w.heap.size+1) rfl 186 _ (0,0) _ hB Tryz.underlying186 rfl (size64 bs) ?_)
      | (refine wpList_store_row rfl 186 (.tmp 2) (.tmp 69) rfl w.heap.size _ rfl rfl 186 co ho1 (size64 bs) (by rw [words_size];exact HO.out) (words_one bs) ?_))
     exact bodyPost_ret (results_cell_row rfl _ _ w.heap.size 186 _ (0,0) _ rfl (Blk.row ho1 _) Tryz.underlying186 rfl (size64 bs)) rfl ⟨rfl,below_setRow hbl (Nat.le_refl _) _⟩
end Go.Proofs.YtlkolcokjmlmjaaGreat.Sh
set_option linter.unusedVariables false
set_option linter.unusedSimpArgs false
namespace Go.Proofs.YtlkolcokjmlmjaaGreat.Sh
open Go.RowKit
def stv (s:St):Value:=.agg #[wv s.a,wv s.b,wv s.c,wv s.d,wv s.e,wv s.f,wv s.g,wv s.h]
def stc (s:St):Array Value:=#[wv s.a,wv s.b,wv s.c,wv s.d,wv s.e,wv s.f,wv s.g,wv s.h]
theorem cell_new2 {w:World} {A B:Obj} {p:Addr} (h:p.block<w.heap.size):((w.alloc A).alloc B).cell? p=w.cell? p:=by
 rw [World.cell?_alloc_lt _ _ _ (by simp;omega),World.cell?_alloc_lt _ _ _ h]
theorem quiet_add_left {P : Program} {f : FuncId} {args : Array Value} {w : World} {a n : Nat} {v : Value}
  (h:Calls P f args (w.drewN (a+n)) fun e w'=>e=.returned v∧w.drewN (a+n)=w') :
  Calls P f args (w.drewN (a+n)) fun e w''=>e=.returned v∧∃ m,w''=w.drewN (a+m) :=
 h.mono fun _ _ ⟨he,hm⟩=>⟨he,n,hm.symm⟩
theorem quiet_left {P : Program} {f : FuncId} {args : Array Value} {w : World} {n : Nat} {v : Value}
  (h:Calls P f args (w.drewN n) fun e w'=>e=.returned v∧w.drewN n=w'):Calls P f args (w.drewN n) fun e w''=>e=.returned v∧∃ m,w''=w.drewN m :=
 h.mono fun _ _ ⟨he,hm⟩=>⟨he,n,hm.symm⟩
theorem turned6 (u:UInt32) (w:World):Calls Tryz.prog 168 #[.int .u32 (wi u),.int .i64 6,.int .i64 11,.int .i64 25] w fun e w'=>e=.returned (.int .u32 (wi (rot3 u 26 21 7)))∧w=w' :=
 turned_any u 6 11 25 26 21 7 (by omega) (by omega) (by omega) rfl rfl rfl (by omega) w
theorem turned2 (u:UInt32) (w:World):Calls Tryz.prog 168 #[.int .u32 (wi u),.int .i64 2,.int .i64 13,.int .i64 22] w fun e w'=>e=.returned (.int .u32 (wi (rot3 u 30 19 10)))∧w=w' :=
 turned_any u 2 13 22 30 19 10 (by omega) (by omega) (by omega) rfl rfl rfl (by omega) w
theorem info50:(Tryz.prog.info? 174).map (·.size)=some 8:=by kernel_rfl
theorem words_cell {bs:List UInt8} {w:World} {g:Nat} (h:Blk w g 186 ((words bs 64).map wv).toArray) (k:Nat) (hk:k<64):w.cell? ⟨g,k,none⟩=some (.int .u32 (wi (wd bs k))):=by
 rw [h.cell,wd_def]
 simp [List.getD_eq_getElem?_getD,words_length,hk,wv]
set_option maxRecDepth 100000 in
set_option maxHeartbeats 800000 in
theorem fold_any (s : St) (ad : Addr) (cap : Nat) (bs : List UInt8) (g o : Nat) (w : World) (hcap : 64 ≤ cap) (hcap2 : cap ≤ maxLen) (hb : ad.block < w.heap.size)
  (hc:∀ k,k<64→w.cell? (ad.add k)=some (.int .u8 (bi (bs.getD k 0)))) (hg:g<w.heap.size)
  (hk:∀ j,j<64→w.cell? ⟨g,o+j,none⟩=some (.int .u32 (wi (kList.getD j 0)))) :
  Calls Tryz.prog 148 #[stv s,.slice (some ad) 64 cap,.pointer (some ⟨g,o,none⟩)] w fun e w'=>e=.returned (stv (press s bs))∧Below w.heap.size w w':=by
 have HC:=Lib.hid hc
 have HK:=Lib.hid hk
 clear hc hk
 obtain ⟨a,b,c,d,e,f,g',h⟩:=s
 unfold stv wv
 go_enter Tryz.func148,Tryz.ntmps148
 go_wp2_with fail
 refine (sched_any ad cap bs _ hcap hcap2 (by simp;omega) (fun k hk=>by rw [cell_new2 (by rw [block_of_add];exact hb)];exact HC.out k hk)).mono ?_
 rintro e1 w1 ⟨rfl,hb1⟩
 have hs3:Blk w1 w.heap.size 174 #[.int .u32 (wi a),.int .u32 (wi b),.int .u32 (wi c),.int .u32 (wi d),.int .u32 (wi e),.int .u32 (wi f),.int .u32 (wi g'),.int .u32 (wi h)]:=(hb1.block _ (by simp;omega)).trans (heap_alloc2_old _ _ _)
 have hs6:∃ c6,Blk w1 (w.heap.size+1) 174 c6∧c6.size=8:=⟨_,(hb1.block _ (by simp)).trans (heap_alloc2_new _ _ _),rfl⟩
 have hz:w.heap.size+2≤w1.heap.size:=by have:=hb1.size;simp at this;omega
 have hbw:Below w.heap.size w w1:=(((Below.refl _ _).alloc (Nat.le_refl _) _).alloc (by simp) _).trans (hb1.mono (by simp;omega))
 have HS3:=Lib.hid hs3
 have HS6:=Lib.hid hs6
 have HBW:=Lib.hid hbw
 have HB:=Lib.hid hb1
 clear hb1 hs3 hs6 hbw
 go_wp2_with (first
      | (refine wpList_store_row rfl 186 (.tmp 7) (.tmp 22) rfl w1.heap.size _ rfl rfl 186 _ (heap_alloc_new _ _) (size64 bs) (by rw [words_size];rfl) (words_one bs) ?_))
 rw [World.setRow_alloc_new]
 have hs3:Blk (w1.alloc (.cells ((words bs 64).map wv).toArray 186)) w.heap.size 174 #[.int .u32 (wi a),.int .u32 (wi b),.int .u32 (wi c),.int .u32 (wi d),.int .u32 (wi e),.int .u32 (wi f),.int .u32 (wi g'),.int .u32 (wi h)]:=HS3.out.alloc _
 have hs6:∃ c6,Blk (w1.alloc (.cells ((words bs 64).map wv).toArray 186)) (w.heap.size+1) 174 c6∧c6.size=8:=by
  obtain ⟨c6,x1,x2⟩:=HS6.out
  exact ⟨c6,x1.alloc _,x2⟩
 have hs7:Blk (w1.alloc (.cells ((words bs 64).map wv).toArray 186)) w1.heap.size 186 ((words bs 64).map wv).toArray:=heap_alloc_new _ _
 have hbw:Below w.heap.size w (w1.alloc (.cells ((words bs 64).map wv).toArray 186)):=HBW.out.alloc (by omega) _
 generalize w1.alloc (.cells ((words bs 64).map wv).toArray 186)=W at *
 generalize w1.heap.size=n7 at *
 clear HS3 HS6 HBW HB
 have c0:=hs3.cell 0
 have c1:=hs3.cell 1
 have c2:=hs3.cell 2
 have c3:=hs3.cell 3
 have c4:=hs3.cell 4
 have c5:=hs3.cell 5
 have c6:=hs3.cell 6
 have c7:=hs3.cell 7
 simp only [List.getElem?_toArray,List.getElem?_cons_zero,List.getElem?_cons_succ] at c0 c1 c2 c3 c4 c5 c6 c7
 have HS3:=Lib.hid hs3
 have HS6:=Lib.hid hs6
 have HS7:=Lib.hid hs7
 have HBW:=Lib.hid hbw
 clear hs3 hs6 hs7 hbw
 go_simp
 go_quiet (fail)
 go_wp2_with fail
 go_quiet (fail)
 go_wp2_with fail
 go_loopw [8, 9, 10, 11, 12, 13, 14, 15, 39] (fun x8 x9 x10 x11 x12 x13 x14 x15 i wr => ∃ k nq : Nat, k ≤ 64 ∧ i = .int .i64 k ∧ wr = W.drewN nq ∧
   x8=.int .u32 (wi (rounds (words bs 64) ⟨a,b,c,d,e,f,g',h⟩ k).a)∧x9=.int .u32 (wi (rounds (words bs 64) ⟨a,b,c,d,e,f,g',h⟩ k).b) ∧
   x10=.int .u32 (wi (rounds (words bs 64) ⟨a,b,c,d,e,f,g',h⟩ k).c)∧x11=.int .u32 (wi (rounds (words bs 64) ⟨a,b,c,d,e,f,g',h⟩ k).d) ∧
   x12=.int .u32 (wi (rounds (words bs 64) ⟨a,b,c,d,e,f,g',h⟩ k).e)∧x13=.int .u32 (wi (rounds (words bs 64) ⟨a,b,c,d,e,f,g',h⟩ k).f) ∧
   x14=.int .u32 (wi (rounds (words bs 64) ⟨a,b,c,d,e,f,g',h⟩ k).g)∧x15=.int .u32 (wi (rounds (words bs 64) ⟨a,b,c,d,e,f,g',h⟩ k).h)) (fun _ _ _ _ _ _ _ _ i _=>64 - (intOf i).toNat)
 case atStart =>
  exact ⟨0,_,by omega,rfl,World.drewN_drewN _ _ _,by rw [rounds_zero],by rw [rounds_zero],by rw [rounds_zero],by rw [rounds_zero],by rw [rounds_zero],by rw [rounds_zero],by rw [rounds_zero],by rw [rounds_zero]⟩
 case round =>
  obtain ⟨k,nq,hk,rfl,rfl,rfl,rfl,rfl,rfl,rfl,rfl,rfl,rfl⟩:=hrel
  generalize hst:rounds (words bs 64) ⟨a,b,c,d,e,f,g',h⟩ k=t
  obtain ⟨ta,tb,tc,td,te,tf,tg,th⟩:=t
  have HST:=Lib.hid hst
  clear hst
  by_cases hlt:k<64
  ·have hw7:=words_cell HS7.out k hlt
   have hka:W.cell? ⟨g,o+k,none⟩=some (.int .u32 (wi (kList.getD k 0))):=(HBW.out.cell (p:=⟨g,o+k,none⟩) hg).trans (HK.out k hlt)
   have hj1:(0:Int)≤k:=by omega
   have hj2:(k:Int)<64:=by omega
   have hr:Hid (rounds (words bs 64) ⟨a,b,c,d,e,f,g',h⟩ (k+1)=step ⟨ta,tb,tc,td,te,tf,tg,th⟩ (kList.getD k 0) (wd bs k)):=by
    unfold Hid;rw [rounds_next,HST.out,wd_def]
   generalize kList.getD k 0=kk at *
   generalize wd bs k=ww at *
   have b1:=wnot te
   have b2:=wand te tf
   have b3:=wand (~~~ te) tg
   have b4:=wxor (te &&& tf) (~~~ te &&& tg)
   have b5:=wand ta tb
   have b6:=wand ta tc
   have b7:=wand tb tc
   have b8:=wxor (ta &&& tb) (ta &&& tc)
   have b9:=wxor ((ta &&& tb) ^^^ (ta &&& tc)) (tb &&& tc)
   have d1:=wadd th (rot3 te 26 21 7)
   have d2:=wadd (th+rot3 te 26 21 7) ((te &&& tf) ^^^ (~~~ te &&& tg))
   have d3:=wadd (th+rot3 te 26 21 7+((te &&& tf) ^^^ (~~~ te &&& tg))) kk
   have d4:=wadd (th+rot3 te 26 21 7+((te &&& tf) ^^^ (~~~ te &&& tg))+kk) ww
   have d5:=wadd (rot3 ta 30 19 10) ((ta &&& tb) ^^^ (ta &&& tc) ^^^ (tb &&& tc))
   have d6:=wadd (th+rot3 te 26 21 7+((te &&& tf) ^^^ (~~~ te &&& tg))+kk+ww) (rot3 ta 30 19 10+((ta &&& tb) ^^^ (ta &&& tc) ^^^ (tb &&& tc)))
   have d7:=wadd td (th+rot3 te 26 21 7+((te &&& tf) ^^^ (~~~ te &&& tg))+kk+ww)
   go_wp2_with fail
   go_quiet ((go_at_call 168;first | exact quiet_add_left (turned6 _ _) | exact quiet_left (turned6 _ _)))
   go_wp2_with (go_at_call 168;refine (turned2 _ _).mono ?_;rintro e w' ⟨rfl,rfl⟩)
   go_roundw
   case rel =>
    exact ⟨k+1,_,by omega,by go_num,rfl,by rw [hr.out];rfl,by rw [hr.out];rfl,by rw [hr.out];rfl,by rw [hr.out];rfl,by rw [hr.out];rfl,by rw [hr.out];rfl,by rw [hr.out];rfl,by rw [hr.out];rfl⟩
   case measure=>simp [intOf];omega
  ·obtain rfl:k=64:=by omega
   have x0:=wadd a ta
   have x1:=wadd b tb
   have x2:=wadd c tc
   have x3:=wadd d td
   have x4:=wadd e te
   have x5:=wadd f tf
   have x6:=wadd g' tg
   have x7:=wadd h th
   obtain ⟨c8,h6,h6z⟩:=HS6.out
   have H6:=Lib.hid h6
   have H6Z:=Lib.hid h6z
   clear h6 h6z
   go_wp2_with (refine wpList_store_row rfl 174 (.tmp 6) (.tmp 126) rfl (w.heap.size+1) _ rfl rfl 174 c8 (H6.out.drewN _) ?e3 ?e4 ?e5 ?_)
   case e3=>exact info50
   case e4=>exact H6Z.out
   case e5=>simp [Value.oneCell']
   refine bodyPost_ret (results_cell_row (p:=6) (ty:=174) ?_ _ _ (w.heap.size+1) 174 _ (0,0) _ ?_ (Blk.row (H6.out.drewN _) _) Tryz.underlying174 ?_ ?_) ?_ ?_
   ·rfl
   ·rfl
   ·rfl
   ·exact info50
   ·rfl
   ·refine ⟨?_,below_setRow (below_drewN HBW.out _) (by omega) _⟩
    rw [press_eq,HST.out]
    rfl
end Go.Proofs.YtlkolcokjmlmjaaGreat.Sh
namespace Go.Proofs.YtlkolcokjmlmjaaGreat.Sh
open Go.RowKit
def hcl (s:St) (rest:List UInt8) (n:Nat) (d m:Int) (ad:List Value):List Value :=
 (stc s).toList++(rest.map bv++([.int .i64 n,.int .u32 d,.int .i32 m,.int .u32 0]++ad))
def HB (w:World) (b:Nat) (s:St) (rest:List UInt8) (n:Nat) (d m:Int) (ad:List Value):Prop :=
 Blk w b 188 (hcl s rest n d m ad).toArray∧rest.length=64∧ad.length=64
def kv:List Value:=kList.map wv
section
variable {w w':World} {b:Nat} {s:St} {rest:List UInt8} {n:Nat} {d m:Int} {ad:List Value}
theorem stc_length (s:St):(stc s).toList.length=8:=rfl
theorem hcl_at (hr : rest.length = 64) (i : Nat) : (hcl s rest n d m ad)[i]? =
  if i<8 then (stc s).toList[i]? else if i<72 then (rest.map bv)[i - 8]? else if i<76 then ([.int .i64 n,.int .u32 d,.int .i32 m,.int .u32 0]:List Value)[i - 72]? else ad[i - 76]?:=by
 unfold hcl
 by_cases h1:i<8
 ·rw [if_pos h1,List.getElem?_append_left (by rw [stc_length];omega)]
 rw [if_neg h1,List.getElem?_append_right (by rw [stc_length];omega),stc_length]
 by_cases h2:i<72
 ·rw [if_pos h2,List.getElem?_append_left (by simp [hr];omega)]
 rw [if_neg h2,List.getElem?_append_right (by simp [hr];omega)]
 simp only [List.length_map,hr]
 by_cases h3:i<76
 ·rw [if_pos h3,List.getElem?_append_left (by simp;omega),show i - 8 - 64=i - 72 from by omega]
 rw [if_neg h3,List.getElem?_append_right (by simp;omega)]
 simp only [List.length_cons,List.length_nil]
 rw [show i - 8 - 64 - (0+1+1+1+1)=i - 76 from by omega]
theorem HB.cell_ (h : HB w b s rest n d m ad) (i : Nat) : w.cell? ⟨b, i, none⟩ =
  if i<8 then (stc s).toList[i]? else if i<72 then (rest.map bv)[i - 8]? else if i<76 then ([.int .i64 n,.int .u32 d,.int .i32 m,.int .u32 0]:List Value)[i - 72]? else ad[i - 76]?:=by
 rw [h.1.cell i,List.getElem?_toArray,hcl_at h.2.1]
theorem HB.lt (h:HB w b s rest n d m ad):b<w.heap.size:=h.1.lt
theorem HB.size_ (h:HB w b s rest n d m ad):w.cell? ⟨b,72,none⟩=some (.int .i64 n):=by rw [h.cell_];rfl
theorem HB.done_ (h:HB w b s rest n d m ad):w.cell? ⟨b,73,none⟩=some (.int .u32 d):=by rw [h.cell_];rfl
theorem HB.lock_ (h:HB w b s rest n d m ad):w.cell? ⟨b,74,none⟩=some (.int .i32 m):=by rw [h.cell_];rfl
theorem HB.rest_ (h:HB w b s rest n d m ad) (i:Nat) (hi:i<64):w.cell? ⟨b,8+i,none⟩=some (bv (rest.getD i 0)):=by
 rw [h.cell_,if_neg (by omega),if_pos (by omega),show 8+i - 8=i from by omega,List.getElem?_map,List.getD_eq_getElem?_getD,List.getElem?_eq_getElem (by rw [h.2.1];exact hi)]
 rfl
theorem HB.added_ (h:HB w b s rest n d m kv) (i:Nat) (hi:i<64):w.cell? ⟨b,76+i,none⟩=some (.int .u32 (wi (kList.getD i 0))):=by
 rw [h.cell_,if_neg (by omega),if_neg (by omega),if_neg (by omega),show 76+i - 76=i from by omega]
 unfold kv
 rw [List.getElem?_map,List.getD_eq_getElem?_getD,List.getElem?_eq_getElem (by rw [kList_length];exact hi)]
 rfl
theorem HB.frozen_ (h:HB w b s rest n d m ad) (i:Nat):w.frozen? ⟨b,i,none⟩=false:=h.1.frozen i
theorem HB.drew (h:HB w b s rest n d m ad):HB w.drew b s rest n d m ad:=h
theorem HB.alloc (h:HB w b s rest n d m ad) (o:Obj):HB (w.alloc o) b s rest n d m ad:=⟨h.1.alloc o,h.2⟩
theorem HB.below {B:Nat} (h:HB w b s rest n d m ad) (hb:Below B w w') (hg:b<B):HB w' b s rest n d m ad:=⟨h.1.below hb hg,h.2⟩
theorem HB.grown {row:Option Nat} (h:HB w b s rest n d m ad) (hb:w.grownBy w' row) (hg:some b≠row):HB w' b s rest n d m ad:=⟨h.1.grown hb hg,h.2⟩
theorem hcl_set (i : Nat) (v : Value) (s' : St) (n' : Nat) (d' m' : Int)
  (he:∀ j,(hcl s' rest n' d' m' ad)[j]?=if i=j then some v else (hcl s rest n d m ad)[j]?) (hi:i<(hcl s rest n d m ad).length) :
  (hcl s rest n d m ad).toArray.setIfInBounds i v=(hcl s' rest n' d' m' ad).toArray:=by
 apply Array.ext'
 rw [Array.toList_setIfInBounds]
 apply List.ext_getElem?
 intro j
 rw [he j,List.getElem?_set]
 by_cases e:i=j
 ·subst e
  rw [if_pos rfl,if_pos rfl,if_pos hi]
 ·rw [if_neg e,if_neg e]
theorem hcl_length (hr:rest.length=64) (ha:ad.length=64):(hcl s rest n d m ad).length=140:=by
 unfold hcl
 rw [List.length_append,stc_length]
 simp [hr,ha]
theorem HB.setDone (h:HB w b s rest n d m ad) (d':Int):HB (w.setCell ⟨b,73,none⟩ (.int .u32 d')) b s rest n d' m ad:=by
 refine ⟨?_,h.2⟩
 have:=h.1.set_ 73 (.int .u32 d')
 rw [hcl_set 73 _ s n d' m (fun j=>?_) (by rw [hcl_length h.2.1 h.2.2];omega)] at this
 ·exact this
 ·rw [hcl_at h.2.1,hcl_at h.2.1]
  by_cases e:73=j
  ·subst e;rfl
  ·rw [if_neg e]
   by_cases h1:j<8
   ·rw [if_pos h1,if_pos h1]
   by_cases h2:j<72
   ·rw [if_neg h1,if_neg h1,if_pos h2,if_pos h2]
   by_cases h3:j<76
   ·rw [if_neg h1,if_neg h1,if_neg h2,if_neg h2,if_pos h3,if_pos h3]
    obtain rfl | rfl | rfl:j=72∨j=74∨j=75:=by omega
    all_goals rfl
   ·rw [if_neg h1,if_neg h1,if_neg h2,if_neg h2,if_neg h3,if_neg h3]
theorem HB.setLock (h:HB w b s rest n d m ad) (m':Int):HB (w.setCell ⟨b,74,none⟩ (.int .i32 m')) b s rest n d m' ad:=by
 refine ⟨?_,h.2⟩
 have:=h.1.set_ 74 (.int .i32 m')
 rw [hcl_set 74 _ s n d m' (fun j=>?_) (by rw [hcl_length h.2.1 h.2.2];omega)] at this
 ·exact this
 ·rw [hcl_at h.2.1,hcl_at h.2.1]
  by_cases e:74=j
  ·subst e;rfl
  ·rw [if_neg e]
   by_cases h1:j<8
   ·rw [if_pos h1,if_pos h1]
   by_cases h2:j<72
   ·rw [if_neg h1,if_neg h1,if_pos h2,if_pos h2]
   by_cases h3:j<76
   ·rw [if_neg h1,if_neg h1,if_neg h2,if_neg h2,if_pos h3,if_pos h3]
    obtain rfl | rfl | rfl:j=72∨j=73∨j=75:=by omega
    all_goals rfl
   ·rw [if_neg h1,if_neg h1,if_neg h2,if_neg h2,if_neg h3,if_neg h3]
theorem HB.setSize (h:HB w b s rest n d m ad) (n':Nat):HB (w.setCell ⟨b,72,none⟩ (.int .i64 n')) b s rest n' d m ad:=by
 refine ⟨?_,h.2⟩
 have:=h.1.set_ 72 (.int .i64 n')
 rw [hcl_set 72 _ s n' d m (fun j=>?_) (by rw [hcl_length h.2.1 h.2.2];omega)] at this
 ·exact this
 ·rw [hcl_at h.2.1,hcl_at h.2.1]
  by_cases e:72=j
  ·subst e;rfl
  ·rw [if_neg e]
   by_cases h1:j<8
   ·rw [if_pos h1,if_pos h1]
   by_cases h2:j<72
   ·rw [if_neg h1,if_neg h1,if_pos h2,if_pos h2]
   by_cases h3:j<76
   ·rw [if_neg h1,if_neg h1,if_neg h2,if_neg h2,if_pos h3,if_pos h3]
    obtain rfl | rfl | rfl:j=73∨j=74∨j=75:=by omega
    all_goals rfl
   ·rw [if_neg h1,if_neg h1,if_neg h2,if_neg h2,if_neg h3,if_neg h3]
end
theorem HB.setAdded {w : World} {b : Nat} {s : St} {rest : List UInt8} {n : Nat} {d m : Int} {ad : List Value} (h : HB w b s rest n d m ad) (vs : List Value) (hv : vs.length = 64) :
  HB (w.setCells b 76 vs) b s rest n d m vs:=by
 refine ⟨?_,h.2.1,hv⟩
 have h1:=blk_setCells vs 76 w _ h.1 (by simp [hcl_length h.2.1 h.2.2,hv])
 have e:(hcl s rest n d m ad).toArray.toList.take 76++vs++(hcl s rest n d m ad).toArray.toList.drop (76+vs.length)=hcl s rest n d m vs:=by
  have hl:=hcl_length (s:=s) (n:=n) (d:=d) (m:=m) h.2.1 h.2.2
  rw [List.drop_eq_nil_of_le (by simp [hl,hv]),List.append_nil]
  have hA:∀ a:List Value,hcl s rest n d m a=((stc s).toList++(rest.map bv++[.int .i64 n,.int .u32 d,.int .i32 m,.int .u32 0]))++a:=by
   intro a;unfold hcl;simp
  have hB:((stc s).toList++(rest.map bv++[.int .i64 n,.int .u32 d,.int .i32 m,.int .u32 0]):List Value).length=76:=by
   rw [List.length_append,stc_length];simp [h.2.1]
  show (hcl s rest n d m ad).take 76++vs=_
  rw [hA ad,hA vs,List.take_append_of_le_length (by omega),List.take_of_length_le (by omega)]
 rw [e] at h1
 exact h1
theorem HB.setState {w : World} {b : Nat} {s : St} {rest : List UInt8} {n : Nat} {d m : Int} {ad : List Value} (h : HB w b s rest n d m ad) (s' : St) :
  HB (w.setCells b 0 (stc s').toList) b s' rest n d m ad:=by
 refine ⟨?_,h.2⟩
 have h1:=blk_setCells (stc s').toList 0 w _ h.1 (by simp [hcl_length h.2.1 h.2.2,stc])
 have e:(hcl s rest n d m ad).toArray.toList.take 0++(stc s').toList++(hcl s rest n d m ad).toArray.toList.drop (0+(stc s').toList.length)=hcl s' rest n d m ad:=by
  rfl
 rw [e] at h1
 exact h1
end Go.Proofs.YtlkolcokjmlmjaaGreat.Sh
