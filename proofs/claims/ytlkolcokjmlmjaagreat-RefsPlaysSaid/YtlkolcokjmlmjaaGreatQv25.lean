/- Texts put together: VShW3, VShW4, VShW5, VShW6. -/
import Derived.Test.YtlkolcokjmlmjaaGreatQv24
import Derived.Defers
import Derived.Laws.Pointers
import Derived.Laws.LoneSync
import Derived.RegionTactic
import Derived.RegionCalls
import Derived.ChangeAlike
namespace Go.Proofs.YtlkolcokjmlmjaaGreat.Sh
open Go.RowKit
theorem disable (w:World):(callFunc 205 #[]).run Tryz.prog w=.ok (.value (.tuple #[])) w:=run_call_mark0 Tryz.func205 (by kernel_rfl) (by kernel_rfl) (by kernel_rfl) .disable (by kernel_rfl) w
theorem enable (w:World):(callFunc 207 #[]).run Tryz.prog w=.ok (.value (.tuple #[])) w:=run_call_mark0 Tryz.func207 (by kernel_rfl) (by kernel_rfl) (by kernel_rfl) .enable (by kernel_rfl) w
theorem acquire (a:Addr) (w:World):(callFunc 208 #[.pointer (some a)]).run Tryz.prog w=.ok (.value (.tuple #[])) w:=run_call_marked Tryz.func208 (by kernel_rfl) (by kernel_rfl) (by kernel_rfl) .acquire (by kernel_rfl) a w
theorem releaseMerge (a:Addr) (w:World):(callFunc 210 #[.pointer (some a)]).run Tryz.prog w=.ok (.value (.tuple #[])) w:=run_call_marked Tryz.func210 (by kernel_rfl) (by kernel_rfl) (by kernel_rfl) .releaseMerge (by kernel_rfl) a w
set_option maxRecDepth 100000 in
theorem store_deferred (a : Addr) (x : Value) (u : FrameMode) (w : World) (hc : w.cell? a = some x) (hz : w.frozen? a = false) :
  CallsD Tryz.prog 193 #[.pointer (some a),.bool true] u w fun e u' w'=>u'=u∧(e=.returned (.tuple #[])∧w'=w.drew.setCell a (.int .u32 1)):=by
 have hc':w.drew.cell? a=some x:=by go_simp
 have hz':w.drew.frozen? a=false:=by go_simp
 have hst:=run_call_store (P:=Tryz.prog) Tryz.func202 (by kernel_rfl) (by kernel_rfl) (by kernel_rfl) (by kernel_rfl) (k:=.u32) (y:=1) hc' hz'
 go_enter_d Tryz.func193,Tryz.ntmps193
 go_wp2
 go_region_calls
 all_goals (go_end0;exact ⟨rfl,rfl⟩)
set_option maxRecDepth 100000 in
theorem unlock_deferred (a : Addr) (u : FrameMode) (w : World) (hc : w.cell? a = some (.int .i32 1)) (hz : w.frozen? a = false) :
  CallsD Tryz.prog 192 #[.pointer (some a)] u w fun e u' w'=>u'=u∧(e=.returned (.tuple #[])∧w'=w.setCell a (.int .i32 0)):=by
 have hd:=disable
 have he:=enable
 have hr:=releaseMerge
 have hadd:=run_call_add (P:=Tryz.prog) Tryz.func211 (by kernel_rfl) (by kernel_rfl) (by kernel_rfl) .i32 (by kernel_rfl) (y:=-1) (s:=0) hc hz (by simp [go_sem];rfl)
 have hcv:=run_convert_to_unsafe (P:=Tryz.prog) (src:=236) (dst:=240) Tryz.underlying236 Tryz.underlying240 (by kernel_rfl) hc
 go_enter_d Tryz.func192,Tryz.ntmps192
 go_wp2
 go_end0
 go_wp2
 go_end0
 exact ⟨rfl,rfl⟩
set_option maxRecDepth 100000 in
theorem lock_free (a : Addr) (w : World) (hc : w.cell? a = some (.int .i32 0)) (hz : w.frozen? a = false) :
  Calls Tryz.prog 191 #[.pointer (some a)] w fun e w'=>e=.returned (.tuple #[])∧w'=w.setCell a (.int .i32 1):=by
 have hd:=disable
 have he:=enable
 have ha:=acquire
 have hcas:=run_call_cas_hit (P:=Tryz.prog) Tryz.func206 (by kernel_rfl) (by kernel_rfl) (by kernel_rfl) .i32 (by kernel_rfl) (y:=1) hc hz
 have hc':(w.setCell a (.int .i32 1)).cell? a=some (.int .i32 1):=World.cell?_setCell_same w a _ hc
 have hcv:=run_convert_to_unsafe (P:=Tryz.prog) (src:=236) (dst:=240) Tryz.underlying236 Tryz.underlying240 (by kernel_rfl) hc'
 go_enter Tryz.func191,Tryz.ntmps191
 go_wp2
 first | go_end0 | (simp only [Exit.inBlock,Exit.then];refine bodyPost_ret (results_none rfl _ _ _) rfl ?_) | refine bodyPost_ret (results_none rfl _ _ _) rfl ?_
 go_wp2
 go_end0
 exact ⟨rfl,rfl⟩
end Go.Proofs.YtlkolcokjmlmjaaGreat.Sh
namespace Go.Proofs.YtlkolcokjmlmjaaGreat.Sh
open Go.RowKit
def kNums:List Int:=[1116352408,1899447441,3049323471,3921009573,961987163,1508970993,2453635748,2870763221,3624381080,310598401,607225278,1426881987,1925078388,2162078206,2614888103,3248222580,3835390401,4022224774,264347078,604807628,770255983,1249150122,1555081692,1996064986,2554220882,2821834349,2952996808,3210313671,3336571891,3584528711,113926993,338241895,666307205,773529912,1294757372,1396182291,1695183700,1986661051,2177026350,2456956037,2730485921,2820302411,3259730800,3345764771,3516065817,3600352804,4094571909,275423344,430227734,506948616,659060556,883997877,958139571,1322822218,1537002063,1747873779,1955562222,2024104815,2227730452,2361852424,2428436474,2756734187,3204031479,3329325298]
theorem kv_nums:kList.map wi=kNums:=by unfold kList wi;rfl
theorem kv_lit:kv=kNums.map (fun n=>Value.int .u32 n):=by
 rw [← kv_nums];unfold kv wv;rw [List.map_map];rfl
theorem kv_length:kv.length=64:=by unfold kv;rw [List.length_map];exact kList_length
theorem first_lit:stc St.first=#[.int .u32 1779033703,.int .u32 3144134277,.int .u32 1013904242,.int .u32 2773480762,.int .u32 1359893119,.int .u32 2600822924,.int .u32 528734635,.int .u32 1541459225]:=by unfold stc wv wi St.first;rfl
set_option maxRecDepth 100000 in
set_option maxHeartbeats 400000 in
theorem roots_any (w:World):Calls Tryz.prog 166 #[] w fun e w'=>e=.returned (.agg kv.toArray)∧Below w.heap.size w w':=by
 go_enter Tryz.func166,Tryz.ntmps166
 go_wp2_with (refine wpList_store_row rfl 186 (.tmp 0) (.tmp 1) rfl w.heap.size _ rfl rfl 186 _ (heap_alloc_new _ _) ?e3 ?e4 ?e5 ?_)
 case e3=>exact info64
 case e4=>rfl
 case e5=>simp [Value.oneCell']
 refine bodyPost_ret (results_cell_row (p:=0) (ty:=186) ?_ _ _ w.heap.size 186 _ (0,0) _ ?_ (Blk.row (heap_alloc_new _ _) _) Tryz.underlying186 ?_ ?_) ?_ ?_
 ·rfl
 ·rfl
 ·rfl
 ·exact info64
 ·rfl
 ·refine ⟨?_,below_setRow ((Below.refl _ _).alloc (Nat.le_refl _) _) (Nat.le_refl _) _⟩
  rw [kv_lit]
  rfl
set_option maxRecDepth 100000 in
set_option maxHeartbeats 400000 in
theorem squares_any (w:World):Calls Tryz.prog 146 #[] w fun e w'=>e=.returned (stv St.first)∧Below w.heap.size w w':=by
 go_enter Tryz.func146,Tryz.ntmps146
 go_wp2_with (refine wpList_store_row rfl 174 (.tmp 0) (.tmp 1) rfl w.heap.size _ rfl rfl 174 _ (heap_alloc_new _ _) ?e3 ?e4 ?e5 ?_)
 case e3=>exact info50
 case e4=>rfl
 case e5=>simp [Value.oneCell']
 refine bodyPost_ret (results_cell_row (p:=0) (ty:=174) ?_ _ _ w.heap.size 174 _ (0,0) _ ?_ (Blk.row (heap_alloc_new _ _) _) Tryz.underlying174 ?_ ?_) ?_ ?_
 ·rfl
 ·rfl
 ·rfl
 ·exact info50
 ·rfl
 ·refine ⟨?_,below_setRow ((Below.refl _ _).alloc (Nat.le_refl _) _) (Nat.le_refl _) _⟩
  show _=Ending.returned (.agg (stc St.first))
  rw [first_lit]
end Go.Proofs.YtlkolcokjmlmjaaGreat.Sh
namespace Go.Proofs.YtlkolcokjmlmjaaGreat.Sh
open Go.RowKit
theorem kv_one:∀ v∈kv,v.oneCell'=true:=by
 intro v hv
 unfold kv at hv
 simp only [List.mem_map] at hv
 obtain ⟨u,_,rfl⟩:=hv
 rfl
theorem HB.there76 {w:World} {b:Nat} {s:St} {rest:List UInt8} {n:Nat} {d m:Int} {ad:List Value} (h:HB w b s rest n d m ad):w.there b 76 64:=by
 intro j hj
 refine ⟨?_,h.frozen_ _⟩
 rw [h.cell_,if_neg (by omega),if_neg (by omega),if_neg (by omega),List.getElem?_eq_getElem (by have:=h.2.2;omega)]
 rfl
theorem info64k:(Tryz.prog.info? 186).map (·.size)=some kv.length:=by rw [kv_length];exact info64
theorem there_below {B:Nat} {w w':World} {b o n:Nat} (h:Below B w w') (hb:b<B) (ht:w.there b o n):w'.there b o n:=fun j hj=>by
 rw [h.cell (p:=⟨b,o+j,none⟩) hb,h.frozen (p:=⟨b,o+j,none⟩) hb]
 exact ht j hj
set_option maxRecDepth 100000 in
set_option maxHeartbeats 400000 in
theorem closure_any (b : Nat) (pl : Addr) (s : St) (rest : List UInt8) (n : Nat) (d m : Int) (ad : List Value) (w : World) (h : HB w b s rest n d m ad) (hp : w.cell? pl = some (.pointer (some ⟨b, 0, none⟩))) (hpb : pl.block ≠ b) :
  Calls Tryz.prog 165 #[.pointer (some pl)] w fun e w'=>e=.returned (.tuple #[])∧HB w' b s rest n d m kv∧w.grownBy w' (some b):=by
 have ht:=h.there76
 have hu:=Tryz.underlying186
 have hi:=info64k
 have hl:=kv_length
 have h1:=kv_one
 have H:=Lib.hid h
 have hbl:b<w.heap.size:=h.lt
 have hpl:pl.block<w.heap.size:=World.block_lt_of_cell? w pl hp
 clear h
 go_enter Tryz.func165,Tryz.ntmps165
 go_region_held3 (fun w' => w'.cell? pl = some (.pointer (some ⟨b, 0, none⟩)) ∧ w'.there b 76 64) (first
   | exact ⟨hp,ht⟩
   | exact ⟨(Below.cell hb1 hpl).trans hp,there_below hb1 hbl ht⟩
   | exact ⟨(World.cell?_setCells_out _ _ _ _ _ (fun e=>absurd e hpb)).trans ((Below.cell hb1 hpl).trans hp),World.there_setCells (there_below hb1 hbl ht) _ _ _⟩)
  (first | (go_at_call 166;refine (roots_any _).mono ?_;rintro e w1 ⟨rfl,hb1⟩))
 go_end0
 exact ⟨rfl,(H.out.drew.below hb1 hbl).setAdded kv kv_length,only_setCells _ _ _ (only_then_below (only_drew (World.grownBy.refl w _)) hb1)⟩
set_option maxRecDepth 100000 in
set_option maxHeartbeats 1600000 in
theorem slow_any (b : Nat) (pl : Addr) (s : St) (rest : List UInt8) (n : Nat) (ad : List Value) (w : World) (h : HB w b s rest n 0 0 ad) (hp : w.cell? pl = some (.pointer (some ⟨b, 0, none⟩))) (hpb : pl.block ≠ b) :
  Calls Tryz.prog 175 #[.pointer (some ⟨b,73,none⟩),.func (.func 165) #[] #[.pointer (some pl)]] w fun e w'=>e=.returned (.tuple #[])∧HB w' b s rest n 1 0 kv∧w.grownBy w' (some b):=by
 have g1:=h.setLock 1
 have hq1:w.grownBy (w.setCell ⟨b,74,none⟩ (.int .i32 1)) (some b):=only_setCell (World.grownBy.refl w _) (.inl rfl) _
 have hl:=run_call_load (P:=Tryz.prog) Tryz.func190 (by kernel_rfl) (by kernel_rfl) (by kernel_rfl) .u32 (by kernel_rfl) (w:=w.setCell ⟨b,74,none⟩ (.int .i32 1)) (a:=⟨b,73,none⟩) (x:=0) g1.done_
 have hp1:(w.setCell ⟨b,74,none⟩ (.int .i32 1)).cell? pl=some (.pointer (some ⟨b,0,none⟩)):=(World.cell?_setCell_other _ ⟨b,74,none⟩ pl _ (fun e=>hpb (by rw [← e]))).trans hp
 have hnot:∀ (x:Bool) (w:World),(Op.unary .not (.bool x)).run Tryz.prog w=.ok (.bool (!x)) w:=fun _ _=>rfl
 have hlk:=h.lock_
 have hfz:=h.frozen_ 74
 have G1:=Lib.hid g1
 have Q1:=Lib.hid hq1
 have HP1:=Lib.hid hp1
 clear g1 hq1 hp1 h hp
 go_enter_defers Tryz.func175,Tryz.ntmps175
 go_wp2_with (go_at_call 191;refine (lock_free ⟨b,74,none⟩ _ (by go_simp) (by go_simp)).mono ?_;rintro e w' ⟨rfl,rfl⟩)
 go_wp2_with (first | (go_at_call 165;refine (closure_any b pl s rest n 0 1 ad _ G1.out HP1.out hpb).mono ?_;rintro e w2 ⟨rfl,hB2,hg2⟩) | (go_at_call 174;go_in))
 go_wp2
 refine leaves_cons (f:=193) (args:=#[.pointer (some ⟨b,73,none⟩),.bool true]) (by simp) (by simp [go_sem]) ?_
 refine (store_deferred ⟨b,73,none⟩ (.int .u32 0) .returning _ hB2.done_ (hB2.frozen_ 73)).mono ?_
 rintro e u' w'' ⟨rfl,rfl,rfl⟩
 have hB3:=(hB2.drew).setDone 1
 refine leaves_cons (f:=192) (args:=#[.pointer (some ⟨b,74,none⟩)]) (by simp [settle]) (by simp [go_sem]) ?_
 refine (unlock_deferred ⟨b,74,none⟩ _ _ hB3.lock_ (hB3.frozen_ 74)).mono ?_
 rintro e u' w'' ⟨rfl,rfl,rfl⟩
 have hB4:=hB3.setLock 0
 have hq:=only_setCell (p:=⟨b,74,none⟩) (only_setCell (p:=⟨b,73,none⟩) (only_drew (only_then Q1.out hg2)) (.inl rfl) (.int .u32 1)) (.inl rfl) (.int .i32 0)
 simp [Leaves,settle,results,Tryz.results175]
 exact ⟨hB4,hq⟩
theorem do_first (b : Nat) (pl : Addr) (s : St) (rest : List UInt8) (n : Nat) (ad : List Value) (w : World) (h : HB w b s rest n 0 0 ad) (hp : w.cell? pl = some (.pointer (some ⟨b, 0, none⟩))) (hpb : pl.block ≠ b) :
  Calls Tryz.prog 164 #[.pointer (some ⟨b,73,none⟩),.func (.func 165) #[] #[.pointer (some pl)]] w fun e w'=>e=.returned (.tuple #[])∧HB w' b s rest n 1 0 kv∧w.grownBy w' (some b):=by
 have hl:=run_call_load (P:=Tryz.prog) Tryz.func190 (by kernel_rfl) (by kernel_rfl) (by kernel_rfl) .u32 (by kernel_rfl) h.done_
 have hnot:∀ (x:Bool) (w:World),(Op.unary .not (.bool x)).run Tryz.prog w=.ok (.bool (!x)) w:=fun _ _=>rfl
 have H:=Lib.hid h
 have HP:=Lib.hid hp
 clear h hp
 go_enter Tryz.func164,Tryz.ntmps164
 go_wp2_with (first | (go_at_call 175;refine (slow_any b pl s rest n ad _ H.out HP.out hpb).mono ?_;rintro e w' ⟨rfl,hh⟩) | (go_at_call 174;go_in))
 go_end0
 exact ⟨rfl,hh⟩
theorem do_done (a : Addr) (fv : Value) (w : World) (h0 : w.cell? a = some (.int .u32 1)) :
  Calls Tryz.prog 164 #[.pointer (some a),fv] w fun e w'=>e=.returned (.tuple #[])∧w=w':=by
 have hl:=run_call_load (P:=Tryz.prog) Tryz.func190 (by kernel_rfl) (by kernel_rfl) (by kernel_rfl) .u32 (by kernel_rfl) h0
 have hnot:∀ (x:Bool) (w:World),(Op.unary .not (.bool x)).run Tryz.prog w=.ok (.bool (!x)) w:=fun _ _=>rfl
 go_enter Tryz.func164,Tryz.ntmps164
 go_wp2
 go_end0
 exact ⟨rfl,rfl⟩
def Made (d:Int) (ad:List Value):Prop:=d=0∨(d=1∧ad=kv)
set_option maxRecDepth 100000 in
set_option maxHeartbeats 800000 in
theorem constants_any (b : Nat) (s : St) (rest : List UInt8) (n : Nat) (d : Int) (ad : List Value) (w : World) (h : HB w b s rest n d 0 ad) (hm : Made d ad) :
  Calls Tryz.prog 147 #[.pointer (some ⟨b,0,none⟩)] w fun e w'=>e=.returned (.pointer (some ⟨b,76,none⟩))∧HB w' b s rest n 1 0 kv∧w.grownBy w' (some b):=by
 have hmf:∀ (fn:Fn) (first cap:Array Value) (w:World),(Instr.makeFunc fn first cap).run Tryz.prog w=.ok (.func fn first cap) w:=fun _ _ _ _=>rfl
 have hbl:=h.lt
 rcases hm with rfl | ⟨rfl,rfl⟩
 ·have H:=Lib.hid h
  clear h
  go_enter Tryz.func147,Tryz.ntmps147
  go_wp2_with (go_at_call 164;refine (do_first b ⟨w.heap.size,0,none⟩ s rest n ad _ (H.out.alloc _) (by simp) (by simp;omega)).mono ?_;rintro e w2 ⟨rfl,hB,hg⟩;have hc:w2.cell? ⟨w.heap.size,0,none⟩=some (.pointer (some ⟨b,0,none⟩)):=(only_cell hg (by simp) (by simp;omega)).trans (by simp);have HBB:=Lib.hid hB;have HG:=Lib.hid hg;clear hB hg)
  go_ret
  exact ⟨rfl,HBB.out,only_then (only_alloc (World.grownBy.refl w _) _) HG.out⟩
 ·have H:=Lib.hid h
  clear h
  go_enter Tryz.func147,Tryz.ntmps147
  go_wp2_with (go_at_call 164;refine (do_done ⟨b,73,none⟩ _ _ ((H.out.alloc _).done_)).mono ?_;rintro e w2 ⟨rfl,rfl⟩)
  go_ret
  exact ⟨rfl,H.out.alloc _,only_alloc (World.grownBy.refl w _) _⟩
end Go.Proofs.YtlkolcokjmlmjaaGreat.Sh
namespace Go.Proofs.YtlkolcokjmlmjaaGreat.Sh
open Go.RowKit
def Own (w:World) (B:Nat) (v:Value) (bs:List UInt8):Prop:=w.ownsRow B 5 1 v bs.length (bs.map bv)
theorem info5:(Tryz.prog.info? 5).map (fun i=>(i.zero,i.size,i.bytes))=some (some (.int .u8 0),1,1):=by kernel_rfl
theorem own_made (w:World) (c:Nat) (hc:c≤maxLen):(w.alloc (.cells (madeCells #[.int .u8 0] c) 5)).ownsRow w.heap.size 5 1 (.slice (some ⟨w.heap.size,0,none⟩) 0 c) 0 [] :=
 World.ownsRow_made w _ c (Nat.le_refl _) hc (by rw [size_madeCells];omega)
theorem make_bytes (c : Nat) (hc : c ≤ 281474976710656) (w : World) :
  (Instr.makeSlice 32 (.int .i64 ((0:Nat):Int)) (.int .i64 (c:Int))).run Tryz.prog w=.ok (.slice (some ⟨w.heap.size,0,none⟩) 0 c) (w.alloc (.cells (madeCells #[.int .u8 0] c) 5)):=by
 obtain ⟨i0,hi,hz0,hz1,hz2⟩:=info_parts info5
 have hr:=run_make (P:=Tryz.prog) w 32 5 i0 (.int .u8 0) Tryz.underlying32 hi hz0 .i64 .i64 0 c (by omega) (by omega) (by rw [hz2];omega) (by omega)
 rw [hz1] at hr
 simpa [Value.cells] using hr
theorem bv_one (l:List UInt8):∀ u∈l.map bv,u.oneCell'=true:=by
 intro u hu
 simp only [List.mem_map] at hu
 obtain ⟨x,_,rfl⟩:=hu
 rfl
theorem Own.alloc {w:World} {B:Nat} {v:Value} {bs:List UInt8} (h:Own w B v bs) (o:Obj):Own (w.alloc o) B v bs:=World.ownsRow.alloc h o
theorem Own.drew {w:World} {B:Nat} {v:Value} {bs:List UInt8} (h:Own w B v bs):Own w.drew B v bs:=h
theorem append_bytes {ops : Array Oper} {rest : List Oper} {o : Oper} {a : Act} {Q : Exit → Act → World → Prop} (hgd : o.guard = none) (s x : Operand)
  (ho:o.op=.call { callee:=.builtin .append,args:=#[s,x],argTypes:=#[32,32] }) (w:World) (B:Nat) (v:Value) (bs:List UInt8) (hs:a.eval s=v) (hown:Own w B v bs)
  (B':Nat) (A:Option Addr) (m c:Nat) (news:List UInt8) (hx:a.eval x=.slice A m c) (hr:Reads w B' 1 A m (news.map bv)) (hsmall:bs.length+m≤140737488355328) (hB:B≤w.heap.size)
  (h:∀ v' w',Own w' B v' (bs++news)→Below B w w'→wpList Tryz.prog ops Q rest (a.put o.dst v') w'):wpList Tryz.prog ops Q (o::rest) a w:=by
 obtain ⟨i0,hi,hz0,hz1,hz2⟩:=info_parts info5
 have hm:news.length=m:=by have:=hr.1;simpa using this
 refine wpList_append_any w hgd s x 32 ho B 5 i0 (.int .u8 0) 1 1 Tryz.underlying32 hi hz0 hz1 hz2 rfl (by decide) v bs.length _ hs hown B' A m c _ hx hr (bv_one news) (by unfold maxLen;omega) (by omega) hB ?_
 intro v' w' h1 h2 _
 refine h v' w' ?_ ((Below.refl _ _).grown h2 hB (fun k hk=>(hown.lt k hk).1))
 unfold Own
 rw [List.length_append,hm,List.map_append]
 exact h1
theorem reads_new (w:World) (bs:List UInt8) (cs:Array Value) (hcs:cs.toList=bs.map bv) (m:Nat) (hm:bs.length=m):Reads (w.alloc (.cells cs 5)) (w.heap.size+1) 1 (some ⟨w.heap.size,0,none⟩) m (bs.map bv):=by
 refine ⟨by simp [hm],fun _=>⟨_,rfl,by simp,fun j u hu=>?_⟩⟩
 rw [Addr.add_mid,cell_of_row _ _ _ cs 5 (0,0) (heap_alloc_new w _),Nat.zero_add,← hu,← hcs]
 simp
theorem append_byte {ops : Array Oper} {rest : List Oper} {o : Oper} {a : Act} {Q : Exit → Act → World → Prop} (hgd : o.guard = none) (s x : Operand)
  (ho:o.op=.call { callee:=.builtin .append,args:=#[s,x],argTypes:=#[32,32] }) (w:World) (B:Nat) (v:Value) (bs:List UInt8) (hs:a.eval s=v) (hown:Own w B v bs)
  (k:Int) (u:UInt8) (hu:bi u=k) (hx:a.eval x=.slice (some ⟨w.heap.size,0,none⟩) 1 1) (hsmall:bs.length+1≤140737488355328) (hB:B≤w.heap.size)
  (h:∀ v' w',Own w' B v' (bs++[u])→Below B w w'→wpList Tryz.prog ops Q rest (a.put o.dst v') w'):wpList Tryz.prog ops Q (o::rest) a (w.alloc (.cells #[.int .u8 k] 5)):=by
 subst hu
 refine append_bytes hgd s x ho _ B v bs hs (hown.alloc _) _ _ 1 1 [u] hx (reads_new _ [u] _ rfl 1 rfl) hsmall (by simp;omega) ?_
 intro v' w' h1 h2
 exact h v' w' h1 (((Below.refl _ _).alloc hB _).trans h2)
theorem Own.length {w:World} {B:Nat} {v:Value} {bs:List UInt8} (h:Own w B v bs):∃ A c,v=.slice A bs.length c∧bs.length≤c∧c≤maxLen:=by
 rcases h.2 with ⟨rfl,h0⟩ | ⟨g,cap,cur,rfl,_,_,hc,hm,_⟩
 ·exact ⟨none,0,by rw [h0],by omega,by unfold maxLen;omega⟩
 ·exact ⟨_,_,rfl,hc,hm⟩
theorem bi128:bi 128=128:=by unfold bi;rfl
theorem bi0:bi 0=0:=by unfold bi;rfl
theorem rest_reads {w : World} {b : Nat} {s : St} {rest : List UInt8} {n : Nat} {d m : Int} {ad : List Value} (h : HB w b s rest n d m ad) (r B : Nat) (hr : r ≤ 64) (hB : b < B) :
  Reads w B 1 (some ⟨b,8,none⟩) r ((rest.take r).map bv):=by
 have hl:=h.2.1
 refine ⟨by simp [hl];omega,fun _=>⟨_,rfl,hB,fun j u hu=>?_⟩⟩
 have hj:j<r:=by
  have:=(List.getElem?_eq_some_iff.1 hu).1
  simp [hl] at this
  omega
 rw [Addr.add_mid,h.rest_ j (by omega)]
 rw [List.getElem?_map,List.getElem?_take,if_pos hj,List.getElem?_eq_getElem (by omega)] at hu
 rw [List.getD_eq_getElem?_getD,List.getElem?_eq_getElem (by omega)]
 exact hu
def lenOf:Value→Nat
 | .slice _ n _=>n
 | _=>0
theorem Own.lenOf {w:World} {B:Nat} {v:Value} {bs:List UInt8} (h:Own w B v bs):lenOf v=bs.length:=by
 obtain ⟨A,c,rfl,_⟩:=h.length
 rfl
theorem zeros_lt (n j:Nat) (h:j<zeros n):(n % 64+1+j) % 64≠56:=by unfold zeros at h;omega
theorem zeros_at (n:Nat):(n % 64+1+zeros n) % 64=56:=by unfold zeros;omega
theorem zeros_small (n:Nat):zeros n<64:=by unfold zeros;omega
theorem len8_length (n:Nat):(len8 n).length=8:=rfl
theorem len8_get (n k:Nat) (hk:k<8):(len8 n)[k]?=some (UInt8.ofNat (8*n / 2 ^ (56 - 8*k))):=by
 obtain rfl | rfl | rfl | rfl | rfl | rfl | rfl | rfl:k=0∨k=1∨k=2∨k=3∨k=4∨k=5∨k=6∨k=7:=by omega
 all_goals first | rfl | (unfold len8;simp)
theorem len8_take (n k:Nat) (hk:k<8):(len8 n).take (k+1)=(len8 n).take k++[UInt8.ofNat (8*n / 2 ^ (56 - 8*k))]:=by
 rw [List.take_add_one,len8_get n k hk]
 rfl
theorem byte_of (x:Nat):IntKind.u8.wrap (x:Int)=bi (UInt8.ofNat x):=by
 unfold bi
 rw [IntKind.wrap_u8,UInt8.toNat_ofNat']
 omega
set_option maxRecDepth 100000 in
set_option maxHeartbeats 800000 in
theorem padded_any (b : Nat) (s : St) (rest : List UInt8) (n : Nat) (d m : Int) (ad : List Value) (w : World) (h : HB w b s rest n d m ad) (hn : n < 2 ^ 60) :
  Calls Tryz.prog 149 #[.pointer (some ⟨b,0,none⟩)] w fun e w'=>∃ v,e=.returned v∧Own w' w.heap.size v (lastOf (rest.take (n % 64)) n)∧Below w.heap.size w w':=by
 have hsz:=h.size_
 have hmk:∀ w:World,(Instr.makeSlice 32 (.int .i64 0) (.int .i64 128)).run Tryz.prog w=.ok (.slice (some ⟨w.heap.size,0,none⟩) 0 128) (w.alloc (.cells (madeCells #[.int .u8 0] 128) 5)):=fun w=>make_bytes 128 (by omega) w
 go_enter Tryz.func149,Tryz.ntmps149
 go_wp2_with fail
 obtain ⟨i0,hi,hz0,hz1,hz2⟩:=info_parts info5
 have hbl:=h.lt
 have hown:=own_made w 128 (by unfold maxLen;omega)
 have hB0:HB (w.alloc (.cells (madeCells #[.int .u8 0] 128) 5)) b s rest n d m ad:=h.alloc _
 have hlw:Below w.heap.size w (w.alloc (.cells (madeCells #[.int .u8 0] 128) 5)):=(Below.refl _ _).alloc (Nat.le_refl _) _
 have hsz':=hB0.size_
 have hr0:=rest_reads hB0 (n % 64) w.heap.size (by omega) hbl
 have hsW:w.heap.size+1≤(w.alloc (.cells (madeCells #[.int .u8 0] 128) 5)).heap.size:=by simp
 clear hmk hsz h
 generalize w.alloc (.cells (madeCells #[.int .u8 0] 128) 5)=W0 at *
 obtain ⟨r,hr⟩:∃ r,n % 64=r:=⟨_,rfl⟩
 rw [hr] at hr0
 have e1:(n:Int).tmod 64=(r:Int):=by rw [Int.tmod_eq_emod_of_nonneg (by omega)];omega
 have e2:(n:Int) % 64=(r:Int):=by omega
 have e3:IntKind.i64.wrap (r:Int)=(r:Int):=IntWalk.i64_in _ (by omega)
 have e4:(0:Int)≤(r:Int):=by omega
 have e5:(r:Int)≤64:=by omega
 have hr64:r≤64:=by omega
 have HR:=Lib.hid hr
 have HOWN:=Lib.hid hown
 have HR0:=Lib.hid hr0
 have HB0:=Lib.hid hB0
 have HLW:=Lib.hid hlw
 clear hr hown hr0 hB0 hlw
 go_region_held3 (fun w'=>w'.cell? ⟨b,72,none⟩=some (.int .i64 n)) (first | exact hsz' | exact (World.grownBy.cell hgrow1 hsz' (by simp [Value.ownBlock];omega)))
  (first | (refine step_append_any _ rfl (.tmp 7) (.tmp 16) 32 rfl w.heap.size 5 i0 (.int .u8 0) 1 1 Tryz.underlying32 hi hz0 hz1 hz2 rfl (by decide) (.slice (some ⟨w.heap.size,0,none⟩) 0 128) 0 [] rfl HOWN.out w.heap.size (some ⟨b,8,none⟩) r 64 _ rfl HR0.out (bv_one _) (by unfold maxLen;omega) (by omega) (by simp;omega) ?_;intro v1 w1 hown1 hgrow1 hblk1))
 have hs1:w1.cell? ⟨b,72,none⟩=some (.int .i64 n):=World.grownBy.cell hgrow1 hsz' (by simp [Value.ownBlock];omega)
 have hl1:Below w.heap.size w w1:=(HLW.out.drew).grown hgrow1 (by simp;omega) (by intro k hk;simp [Value.ownBlock] at hk;omega)
 have ho1:Own w1 w.heap.size v1 (rest.take r):=by
  unfold Own
  have hlen:(rest.take r).length=r:=by rw [List.length_take,HB0.out.2.1];omega
  rw [hlen]
  simpa using hown1
 have hz1':w.heap.size+1≤w1.heap.size:=by have:=hgrow1.size;simp at this;omega
 clear hown1 hgrow1 hblk1
 have hlr:(rest.take r).length=r:=by rw [List.length_take,HB0.out.2.1];omega
 have hsm:(rest.take r).length+1≤140737488355328:=by omega
 have hW1:w.heap.size≤w1.heap.size:=by omega
 go_wp2_with (at_builtin;refine append_byte rfl (.tmp 18) (.tmp 19) rfl w1 w.heap.size v1 _ rfl ho1 128 128 (by rw [bi128]) rfl hsm hW1 ?_;intro v2 w2 ho2 hb2)
 have hb2':Below w.heap.size w w2:=hl1.trans hb2
 have hz2':w.heap.size+1≤w2.heap.size:=by have:=hb2.size;omega
 have hs2:w2.cell? ⟨b,72,none⟩=some (.int .i64 n):=(hb2.cell (p:=⟨b,72,none⟩) hbl).trans hs1
 clear hs1 hl1 ho1 hz1' hb2 hW1 hsz' hsW hsm
 obtain ⟨base,hbase⟩:∃ base,rest.take r++[128]=base:=⟨_,rfl⟩
 have hblen:base.length=r+1:=by rw [← hbase,List.length_append,hlr];rfl
 rw [hbase] at ho2
 have HBASE:=Lib.hid hbase
 have HLEN:=Lib.hid hblen
 clear hbase hblen hlr
 go_loopw [3] (fun v wr=>∃ j:Nat,j≤zeros n∧Own wr w.heap.size v (base++List.replicate j 0)∧Below w.heap.size w wr∧w.heap.size≤wr.heap.size∧wr.cell? ⟨b,72,none⟩=some (.int .i64 n)) (fun v _=>128 - lenOf v)
 case atStart=>exact ⟨0,by omega,by simpa using ho2,hb2',by omega,hs2⟩
 case round =>
  obtain ⟨j,hj,ho,hbw,hsz,hcs⟩:=hrel
  obtain ⟨A,c,rfl,hc1,hc2⟩:=ho.length
  have hzs:=zeros_small n
  obtain ⟨L,hL⟩:∃ L,(base++List.replicate j 0).length=L:=⟨_,rfl⟩
  have hL':L=r+1+j:=by rw [← hL,List.length_append,HLEN.out,List.length_replicate]
  rw [hL] at ho hc1 ⊢
  have hL1:L≤128:=by omega
  by_cases hlt:j<zeros n
  ·have hne:=zeros_lt n j hlt
   rw [HR.out,← hL'] at hne
   have t1:((L:Int) % 64==56)=false:=beq_eq_false_iff_ne.2 (by omega)
   have t2:((L:Int) % 64 != 56)=true:=by rw [bne_iff_ne];omega
   have hsm:(base++List.replicate j 0).length+1≤140737488355328:=by omega
   have HL:=Lib.hid hL
   have HL':=Lib.hid hL'
   clear hL hL' hne
   go_wp2_with (at_builtin;refine append_byte rfl (.tmp 25) (.tmp 26) rfl wr w.heap.size (.slice A L c) (base++List.replicate j 0) rfl ho 0 0 (by rw [bi0]) rfl hsm hsz ?_;intro v3 w3 ho3 hb3)
   have hl3:=ho3.lenOf
   refine ⟨⟨j+1,by omega,?_,hbw.trans hb3,by have:=hb3.size;omega,(hb3.cell (p:=⟨b,72,none⟩) hbl).trans hcs⟩,?_⟩
   ·rw [List.append_assoc,← List.replicate_succ'] at ho3;exact ho3
   ·rw [hl3,List.length_append,HL.out]
    show 128 - (L+1)<128 - L
    have:=HL'.out
    omega
  ·obtain rfl:j=zeros n:=by omega
   have hat:=zeros_at n
   rw [HR.out,← hL'] at hat
   have t1:((L:Int) % 64==56)=true:=beq_iff_eq.2 (by omega)
   have t2:((L:Int) % 64 != 56)=false:=by rw [bne_eq_false_iff_eq];omega
   obtain ⟨base2,hb2e⟩:∃ base2,base++List.replicate (zeros n) 0=base2:=⟨_,rfl⟩
   rw [hb2e] at hL ho
   have HB2E:=Lib.hid hb2e
   have HL:=Lib.hid hL
   have HL':=Lib.hid hL'
   clear hL hL' hat hb2e
   have u1:IntKind.u64.wrap (n:Int)=(n:Int):=IntWalk.u64_in _ (by omega)
   have u2:IntKind.u64.wrap ((n:Int)*8)=(n:Int)*8:=IntWalk.u64_in _ (by omega)
   go_wp2
   have hcw:=hcs
   clear hcs t1 t2
   have hLl:L≤120:=by have h1:=HL'.out;have h2:=zeros_at n;have h3:=HR.out;omega
   obtain ⟨wo,rfl⟩:∃ wo:World,wo=wr:=⟨_,rfl⟩
   go_loopw [3,5] (fun v i wr=>∃ k:Nat,k≤8∧i=.int .i64 (56 - 8*(k:Int))∧Own wr w.heap.size v (base2++(len8 n).take k)∧Below w.heap.size w wr∧w.heap.size≤wr.heap.size) (fun _ i _=>(intOf i+8).toNat)
   case atStart=>exact ⟨0,by omega,rfl,by simpa using ho,hbw,hsz⟩
   case round =>
    obtain ⟨k,hk,rfl,ho,hbw,hsz⟩:=hrel
    obtain ⟨L2,hL2⟩:∃ L2,(base2++(len8 n).take k).length=L2:=⟨_,rfl⟩
    have hL2':L2=L+k:=by rw [← hL2,List.length_append,HL.out,List.length_take,len8_length];omega
    obtain ⟨A2,c2,hv,hc21,hc22⟩:=ho.length
    subst hv
    rw [hL2] at ho hc21 ⊢
    by_cases hlt:k<8
    ·have hsm:(base2++(len8 n).take k).length+1≤140737488355328:=by omega
     obtain ⟨S,hS⟩:∃ S:Nat,S=56 - 8*k:=⟨_,rfl⟩
     have hS1:(56:Int) - 8*(k:Int)=(S:Int):=by omega
     have hS2:S≤56:=by omega
     have hby:IntKind.u8.wrap ((n:Int)*8 / 2 ^ S)=bi (UInt8.ofNat (8*n / 2 ^ (56 - 8*k))):=by
      rw [← byte_of,← hS]
      congr 1
      rw [show (n:Int)*8=((8*n:Nat):Int) by omega]
      simp
     rw [hS1]
     have HS:=Lib.hid hS
     have HS1:=Lib.hid hS1
     have HL2:=Lib.hid hL2
     have HL2':=Lib.hid hL2'
     have HBY:=Lib.hid hby
     clear hS hS1 hL2 hL2' hby
     have hS3:(0:Int)≤(S:Int):=by omega
     go_wp2_with (at_builtin;refine append_byte rfl (.tmp 38) (.tmp 43) rfl wr w.heap.size (.slice A2 L2 c2) (base2++(len8 n).take k) rfl ho _ _ HBY.out.symm rfl hsm hsz ?_;intro v3 w3 ho3 hb3)
     refine ⟨⟨k+1,by omega,?_,?_,hbw.trans hb3,by have:=hb3.size;omega⟩,?_⟩
     ·congr 1
      have:=HS1.out
      omega
     ·rw [List.append_assoc,← len8_take n k hlt] at ho3
      exact ho3
     ·simp [intOf]
      omega
    ·obtain rfl:k=8:=by omega
     have hfin:base2++(len8 n).take 8=lastOf (rest.take (n % 64)) n:=by
      have h8:(len8 n).take 8=len8 n:=rfl
      unfold lastOf
      rw [h8,← HB2E.out,← HBASE.out,HR.out]
      simp
     rw [hfin] at ho
     have HO:=Lib.hid ho
     clear ho hfin hL2 hL2'
     rw [show (56:Int) - 8*((8:Nat):Int)=-8 from by omega]
     go_wp2
     go_ret
     exact ⟨_,rfl,HO.out,hbw⟩
end Go.Proofs.YtlkolcokjmlmjaaGreat.Sh
