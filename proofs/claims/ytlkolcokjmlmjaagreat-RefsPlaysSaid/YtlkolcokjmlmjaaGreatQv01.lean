/- Texts put together: VShM0, VTx0, VTb0. -/
import Derived.Below
import Derived.Laws.OwnMore
import Derived.Deep.AppendLies
import Derived.Deep.Draws
import Derived.Laws.Rows
import Derived.Maps.AppendAt
import Derived.RegionTactic
import Derived.OwnWalk
import Derived.Laws.IdiomCopy
import Derived.Deep.OwnRows
import Derived.Test.YtlkolcokjmlmjaaGreatRows
import Derived.WalkKit
import Derived.ProofKit
import Derived.OpenShut
import Derived.BigQuiet
import Derived.Deep.QuietTactic
import Derived.Lib.Hide
import Derived.Deep.RegionWith
import Derived.StillTailTactics
import Derived.Deep.DeepFit
import Derived.Deep.WholeRow
import Derived.Deep.MidRow
import Derived.Deep.RegionHeld3
import Derived.Laws.BytesString
import Derived.ShutString
import Derived.ChangeOld
import Derived.SliceStrings
import Derived.WalkLawsBesides
import Derived.WalkSpells
import Derived.Lib.AppendStr
namespace Go.Proofs.YtlkolcokjmlmjaaGreat.Sh
open Go.RowKit
theorem block_of_add (a:Addr) (n:Nat):(a.add n).block=a.block:=by unfold Addr.add;split <;> rfl
theorem add_of_add (a:Addr) (i j:Nat):(a.add i).add j=a.add (i+j):=by
 unfold Addr.add
 by_cases hi:i=0 <;> by_cases hj:j=0 <;> simp [hi,hj,Nat.add_assoc]
def Reads (w:World) (B size:Nat) (A:Option Addr) (n:Nat) (xs:List Value):Prop :=
 xs.length=n*size∧(0<n→∃ ad,A=some ad∧ad.block<B∧∀ j u,xs[j]?=some u→w.cell? (ad.add j)=some u)
section
variable {w w':World} {B B' size n:Nat} {A:Option Addr} {xs:List Value}
theorem Reads.keep (h:Reads w B size A n xs) (hk:∀ p:Addr,p.block<B→w'.cell? p=w.cell? p):Reads w' B size A n xs :=
 ⟨h.1,fun hn=>by
  obtain ⟨ad,e,hb,hc⟩:=h.2 hn
  exact ⟨ad,e,hb,fun j u hu=>(hk _ (by rw [block_of_add];exact hb)).trans (hc j u hu)⟩⟩
theorem Reads.more (h:Reads w B size A n xs) (hB:B≤B'):Reads w B' size A n xs :=
 ⟨h.1,fun hn=>by
  obtain ⟨ad,e,hb,hc⟩:=h.2 hn
  exact ⟨ad,e,by omega,hc⟩⟩
theorem Reads.below (h:Reads w B size A n xs) (hb:Below B w w'):Reads w' B size A n xs:=h.keep fun _ hp=>hb.cell hp
theorem Reads.cut (h:Reads w B size A n xs) {k cap:Nat} (hk:k≤n) (hc:n≤cap) :
  Reads w B size (if cap=k then A else A.map (·.add (k*size))) (n - k) (xs.drop (k*size)):=by
 refine ⟨by rw [List.length_drop,h.1,Nat.sub_mul],fun hn=>?_⟩
 obtain ⟨ad,rfl,hb,hcell⟩:=h.2 (by omega)
 rw [if_neg (by omega)]
 refine ⟨ad.add (k*size),rfl,by rw [block_of_add];exact hb,fun j u hu=>?_⟩
 rw [add_of_add]
 exact hcell _ u (by rw [← hu,List.getElem?_drop])
theorem Reads.of_own {base:Nat} {e:TypeId} {c:Nat} (h:w.ownsRow base e size (.slice A n c) n xs):Reads w w.heap.size size A n xs:=by
 refine ⟨h.1,fun hn=>?_⟩
 obtain ⟨g,cap,hv,_,hlt⟩:=h.form hn
 have hA:A=some ⟨g,0,none⟩:=by injection hv
 subst hA
 exact ⟨_,rfl,hlt,h.cells (g:=g) rfl⟩
end
def Blk (w:World) (g:Nat) (t:TypeId) (cs:Array Value):Prop:=w.heap[g]?=some (.cells cs t (0,0))
section
variable {w w':World} {g:Nat} {t:TypeId} {cs:Array Value}
theorem Blk.lt (h:Blk w g t cs):g<w.heap.size:=by
 rcases Nat.lt_or_ge g w.heap.size with hlt | hge
 ·exact hlt
 ·unfold Blk at h;rw [Array.getElem?_eq_none hge] at h;cases h
theorem Blk.cell (h:Blk w g t cs) (i:Nat):w.cell? ⟨g,i,none⟩=cs[i]?:=cell_of_row w g i cs t (0,0) h
theorem Blk.frozen (h:Blk w g t cs) (i:Nat):w.frozen? ⟨g,i,none⟩=false:=by
 unfold Blk at h
 simp [World.frozen?,h]
theorem Blk.new (w:World) (t:TypeId) (cs:Array Value):Blk (w.alloc (.cells cs t)) w.heap.size t cs:=heap_alloc_new w _
theorem Blk.drew (h:Blk w g t cs):Blk w.drew g t cs:=h
theorem Blk.drewN (h:Blk w g t cs) (n:Nat):Blk (w.drewN n) g t cs:=h
theorem Blk.alloc (h:Blk w g t cs) (o:Obj):Blk (w.alloc o) g t cs:=(Below.heap_alloc w o g h.lt).trans h
theorem Blk.set_ (h:Blk w g t cs) (i:Nat) (u:Value):Blk (w.setCell ⟨g,i,none⟩ u) g t (cs.setIfInBounds i u):=by
 unfold Blk at h ⊢
 simp [World.setCell,Array.getElem?_modify,h]
theorem Blk.far (h:Blk w g t cs) {p:Addr} (hp:g≠p.block) (u:Value):Blk (w.setCell p u) g t cs:=(Below.heap_setCell w p u g hp).trans h
theorem Blk.below {B:Nat} (h:Blk w g t cs) (hb:Below B w w') (hg:g<B):Blk w' g t cs:=(hb.block g hg).trans h
theorem Blk.grown {row:Option Nat} (h:Blk w g t cs) (hb:w.grownBy w' row) (hg:some g≠row):Blk w' g t cs:=(hb.block g h.lt hg).trans h
theorem Blk.ne_ {g':Nat} {t':TypeId} {cs':Array Value} (h:Blk w g t cs) (h':Blk w g' t' cs') (hne:t≠t'):g≠g':=by
 rintro rfl
 unfold Blk at h h'
 rw [h] at h'
 injection h' with h'
 injection h' with _ ht
 exact hne ht
theorem own_blk_ne {base:Nat} {e:TypeId} {size n:Nat} {v:Value} {xs:List Value} (h:w.ownsRow base e size v n xs) (hg:Blk w g t cs) (hne:e≠t):v.ownBlock≠some g:=by
 rcases h.2 with ⟨rfl,_⟩ | ⟨g',cap,cur,rfl,_,hh,_⟩
 ·simp [Value.ownBlock]
 ·intro he
  have:g'=g:=by simpa [Value.ownBlock] using he
  subst this
  exact Blk.ne_ (t:=e) hh hg hne rfl
end
section
variable {P:Program} (w:World)
theorem run_append_of_nil (base:Nat) (t ty e:TypeId) (i:TypeInfo) (size:Nat) (ht:P.underlying t=some (.slice e)) (hi:P.info? e=some i)
  (v:Value) (n:Nat) (xs:List Value) (hown:w.ownsRow base e size v n xs) (c:Nat):(Builtin.append_ #[t,t] ty #[v,.slice none 0 c]).run P w=.ok v w:=by
 rcases hown.2 with ⟨rfl,rfl⟩ | ⟨g,cap,cur,rfl,_,_,hnc,_⟩
 ·simp [Builtin.append_,run_underlying ht,sizeOf,typeInfo,hi,Builtin.lenOf,Builtin.firstCells]
 ·simp [Builtin.append_,run_underlying ht,sizeOf,typeInfo,hi,Builtin.lenOf,Builtin.firstCells,hnc,storeCells]
theorem run_append_any (base:Nat) (t ty e:TypeId) (i:TypeInfo) (z:Value) (size bytes:Nat) (ht:P.underlying t=some (.slice e)) (hi:P.info? e=some i) (hz:i.zero=some z)
  (hsize:i.size=size) (hby:i.bytes=bytes) (hzs:z.cells.size=size) (hsz:0<size)
  (v:Value) (n:Nat) (xs:List Value) (hown:w.ownsRow base e size v n xs)
  (B:Nat) (A:Option Addr) (m c:Nat) (news:List Value) (hr:Reads w B size A m news) (h1:∀ u∈news,u.oneCell'=true)
  (h63:n+m≤maxLen) (hbytes:(n+m)*bytes≤140737488355328) (hbase:base≤w.heap.size) :
  ∃ v' w',(Builtin.append_ #[t,t] ty #[v,.slice A m c]).run P w=.ok v' w'∧w'.ownsRow base e size v' (n+m) (xs++news)∧w.grownBy w' v.ownBlock ∧
   (v'.ownBlock=v.ownBlock∨v'.ownBlock=some w.heap.size):=by
 rcases A with _ | ad
 ·have hm:m=0:=by
   rcases Nat.eq_zero_or_pos m with h0 | h0
   ·exact h0
   ·obtain ⟨ad,h,_⟩:=hr.2 h0
    cases h
  subst hm
  have hn:news=[]:=List.eq_nil_of_length_eq_zero (by simpa using hr.1)
  subst hn
  exact ⟨v,w,run_append_of_nil w base t ty e i size ht hi v n xs hown c,by simpa using hown,World.grownBy.refl w _,.inl rfl⟩
 ·have hcells:∀ j u,news[j]?=some u→w.cell? (ad.add j)=some u:=by
   intro j u hu
   rcases Nat.eq_zero_or_pos m with h0 | h0
   ·subst h0
    have hn:news=[]:=List.eq_nil_of_length_eq_zero (by simpa using hr.1)
    subst hn
    simp at hu
   ·obtain ⟨ad',h,_,hc⟩:=hr.2 h0
    injection h with h
    subst h
    exact hc j u hu
  obtain ⟨v',w',hrun,h2,h3,_,h5⟩:=run_append_own_at (P:=P) w base t ty e i z size bytes ht hi hz hsize hby hzs hsz v n xs hown ad m c news hr.1 hcells h1 h63 hbytes hbase
  exact ⟨v',w',hrun,h2,h3,h5⟩
theorem wp_append_any {o:Oper} {a:Act} {K:Act→World→Prop} {Q:Exit→Act→World→Prop} (s x:Operand) (t:TypeId)
  (ho:o.op=.call { callee:=.builtin .append,args:=#[s,x],argTypes:=#[t,t] })
  (base:Nat) (e:TypeId) (i:TypeInfo) (z:Value) (size bytes:Nat) (ht:P.underlying t=some (.slice e)) (hi:P.info? e=some i) (hz:i.zero=some z)
  (hsize:i.size=size) (hby:i.bytes=bytes) (hzs:z.cells.size=size) (hsz:0<size)
  (v:Value) (n:Nat) (xs:List Value) (hs:a.eval s=v) (hown:w.ownsRow base e size v n xs)
  (B:Nat) (A:Option Addr) (m c:Nat) (news:List Value) (hx:a.eval x=.slice A m c) (hr:Reads w B size A m news) (h1:∀ u∈news,u.oneCell'=true)
  (h63:n+m≤maxLen) (hbytes:(n+m)*bytes≤140737488355328) (hbase:base≤w.heap.size)
  (h:∀ v' w',w'.ownsRow base e size v' (n+m) (xs++news)→w.grownBy w' v.ownBlock→(v'.ownBlock=v.ownBlock∨v'.ownBlock=some w.heap.size)→K (a.put o.dst v') w'):o.wp P a w K Q:=by
 obtain ⟨v',w',hrun,h2,h3,h4⟩:=run_append_any (P:=P) w base t o.type e i z size bytes ht hi hz hsize hby hzs hsz v n xs hown B A m c news hr h1 h63 hbytes hbase
 unfold Oper.wp execOp
 simp only [ho,resolve,invoke,builtin,Sem.run_bind,Sem.run_pure,Result.andThen_ok,List.map_toArray,List.map_cons,List.map_nil,hs,hx,hrun]
 exact h v' w' h2 h3 h4
theorem wpList_append_any {ops:Array Oper} {rest:List Oper} {o:Oper} {a:Act} {Q:Exit→Act→World→Prop} (hgd:o.guard=none) (s x:Operand) (t:TypeId)
  (ho:o.op=.call { callee:=.builtin .append,args:=#[s,x],argTypes:=#[t,t] })
  (base:Nat) (e:TypeId) (i:TypeInfo) (z:Value) (size bytes:Nat) (ht:P.underlying t=some (.slice e)) (hi:P.info? e=some i) (hz:i.zero=some z)
  (hsize:i.size=size) (hby:i.bytes=bytes) (hzs:z.cells.size=size) (hsz:0<size)
  (v:Value) (n:Nat) (xs:List Value) (hs:a.eval s=v) (hown:w.ownsRow base e size v n xs)
  (B:Nat) (A:Option Addr) (m c:Nat) (news:List Value) (hx:a.eval x=.slice A m c) (hr:Reads w B size A m news) (h1:∀ u∈news,u.oneCell'=true)
  (h63:n+m≤maxLen) (hbytes:(n+m)*bytes≤140737488355328) (hbase:base≤w.heap.size)
  (h:∀ v' w',w'.ownsRow base e size v' (n+m) (xs++news)→w.grownBy w' v.ownBlock→(v'.ownBlock=v.ownBlock∨v'.ownBlock=some w.heap.size)→wpList P ops Q rest (a.put o.dst v') w'):wpList P ops Q (o::rest) a w :=
 wpList_plain hgd fun _ hK=>wp_append_any w s x t ho base e i z size bytes ht hi hz hsize hby hzs hsz v n xs hs hown B A m c news hx hr h1 h63 hbytes hbase fun v' w' h2 h3 h4=>hK _ _ (h v' w' h2 h3 h4)
theorem step_append_any {ops:Array Oper} {o:Oper} {a:Act} {K:Act→World→Prop} {Q:Exit→Act→World→Prop} {E:Prop} (hgd:o.guard=none) (s x:Operand) (t:TypeId)
  (ho:o.op=.call { callee:=.builtin .append,args:=#[s,x],argTypes:=#[t,t] })
  (base:Nat) (e:TypeId) (i:TypeInfo) (z:Value) (size bytes:Nat) (ht:P.underlying t=some (.slice e)) (hi:P.info? e=some i) (hz:i.zero=some z)
  (hsize:i.size=size) (hby:i.bytes=bytes) (hzs:z.cells.size=size) (hsz:0<size)
  (v:Value) (n:Nat) (xs:List Value) (hs:a.eval s=v) (hown:w.ownsRow base e size v n xs)
  (B:Nat) (A:Option Addr) (m c:Nat) (news:List Value) (hx:a.eval x=.slice A m c) (hr:Reads w B size A m news) (h1:∀ u∈news,u.oneCell'=true)
  (h63:n+m≤maxLen) (hbytes:(n+m)*bytes≤140737488355328) (hbase:base≤w.heap.size)
  (h:∀ v' w',w'.ownsRow base e size v' (n+m) (xs++news)→w.grownBy w' v.ownBlock→(v'.ownBlock=v.ownBlock∨v'.ownBlock=some w.heap.size)→K (a.put o.dst v') w') :
  if Region.wanted o (yielded ops a.tmps)=true then Oper.wp P o a w K Q else E:=by
 have hw:Region.wanted o (yielded ops a.tmps)=true:=by simp [Region.wanted,hgd]
 rw [if_pos hw]
 exact wp_append_any w s x t ho base e i z size bytes ht hi hz hsize hby hzs hsz v n xs hs hown B A m c news hx hr h1 h63 hbytes hbase h
end
section
variable {P:Program}
theorem wp_store_row {op:Oper} {a:Act} {w:World} {K:Act→World→Prop} {Q:Exit→Act→World→Prop} (ty:TypeId) (x y:Operand) (ho:op.op=.store ty x y)
  (g:Nat) (cells:Array Value) (hx:a.eval x=.pointer (some ⟨g,0,none⟩)) (hy:a.eval y=.agg cells) (t:TypeId) (c:Array Value) (hg:Blk w g t c)
  (hi:(P.info? ty).map (·.size)=some cells.size) (hs:c.size=cells.size) (h1:cells.all (·.oneCell')=true)
  (h:K (a.put op.dst undef) (w.setRow g cells)):op.wp P a w K Q:=by
 unfold Oper.wp execOp
 simp only [ho,hx,hy,Instr.storeAt,Instr.sureAddr,Sem.run_bind,Sem.run_pure,Result.andThen_ok,run_storeVar_row w g t ty c cells hg hi hs h1]
 exact h
theorem wpList_store_row {ops:Array Oper} {rest:List Oper} {op:Oper} {a:Act} {w:World} {Q:Exit→Act→World→Prop} (hgd:op.guard=none) (ty:TypeId) (x y:Operand) (ho:op.op=.store ty x y)
  (g:Nat) (cells:Array Value) (hx:a.eval x=.pointer (some ⟨g,0,none⟩)) (hy:a.eval y=.agg cells) (t:TypeId) (c:Array Value) (hg:Blk w g t c)
  (hi:(P.info? ty).map (·.size)=some cells.size) (hs:c.size=cells.size) (h1:cells.all (·.oneCell')=true)
  (h:wpList P ops Q rest (a.put op.dst undef) (w.setRow g cells)):wpList P ops Q (op::rest) a w :=
 wpList_plain hgd fun _ hK=>wp_store_row ty x y ho g cells hx hy t c hg hi hs h1 (hK _ _ h)
end
theorem Blk.row {w:World} {g:Nat} {t:TypeId} {c:Array Value} (h:Blk w g t c) (c':Array Value):Blk (w.setRow g c') g t c':=setRow_heap w g c c' t _ h
theorem below_setRow {B:Nat} {a w:World} (h:Below B a w) {g:Nat} (hg:B≤g) (c:Array Value):Below B a (w.setRow g c) :=
 h.trans ⟨rfl,rfl,rfl,by simp,fun k hk=>setRow_other w g k c (by omega)⟩
theorem below_drewN {B:Nat} {a w:World} (h:Below B a w) (n:Nat):Below B a (w.drewN n):=⟨h.os,h.tape,h.output,h.size,h.block⟩
theorem only_drew {a w:World} {row:Option Nat} (h:a.grownBy w row):a.grownBy w.drew row:=⟨h.os,h.tape,h.output,h.size,h.block⟩
theorem only_alloc {a w:World} {row:Option Nat} (h:a.grownBy w row) (o:Obj):a.grownBy (w.alloc o) row :=
 ⟨h.os,h.tape,h.output,Nat.le_trans h.size (by simp),fun i hi hne=>(Below.heap_alloc w o i (Nat.lt_of_lt_of_le hi h.size)).trans (h.block i hi hne)⟩
theorem only_setCell {a w:World} {g:Nat} (h:a.grownBy w (some g)) {p:Addr} (hp:p.block=g∨a.heap.size≤p.block) (u:Value):a.grownBy (w.setCell p u) (some g) :=
 ⟨h.os,h.tape,h.output,by simpa [World.setCell] using h.size,fun i hi hne=>(Below.heap_setCell w p u i (by
  rintro rfl
  rcases hp with hp | hp
  ·exact hne (by rw [hp])
  ·omega)).trans (h.block i hi hne)⟩
theorem only_of_below {a w:World} (h:Below a.heap.size a w) (row:Option Nat):a.grownBy w row:=⟨h.os,h.tape,h.output,h.size,fun i hi _=>h.block i hi⟩
theorem only_then {a w w1:World} {row:Option Nat} (h:a.grownBy w row) (h1:w.grownBy w1 row):a.grownBy w1 row :=
 ⟨h1.os.trans h.os,h1.tape.trans h.tape,h1.output.trans h.output,Nat.le_trans h.size h1.size,fun i hi hne=>(h1.block i (Nat.lt_of_lt_of_le hi h.size) hne).trans (h.block i hi hne)⟩
theorem only_then_below {a w w1:World} {row:Option Nat} (h:a.grownBy w row) (h1:Below w.heap.size w w1):a.grownBy w1 row:=only_then h (only_of_below h1 row)
theorem only_setCells {a:World} {g:Nat} (vs:List Value):∀ (o:Nat) (w:World),a.grownBy w (some g)→a.grownBy (w.setCells g o vs) (some g):=by
 induction vs with
 | nil=>intro o w h;exact h
 | cons v r ih=>intro o w h;exact ih (o+1) _ (only_setCell h (.inl rfl) v)
theorem below_of_only {a w:World} {B g:Nat} (h:a.grownBy w (some g)) (hg:B≤g) (hB:B≤a.heap.size):Below B a w :=
 ⟨h.os,h.tape,h.output,h.size,fun k hk=>h.block k (by omega) (by intro e;injection e;omega)⟩
theorem only_cell {a w:World} {g:Nat} (h:a.grownBy w (some g)) {p:Addr} (hp:p.block<a.heap.size) (hne:p.block≠g):w.cell? p=a.cell? p :=
 World.cell?_of_block (h.block p.block hp (fun e=>hne (by injection e)))
theorem blk_setCells {g:Nat} {t:TypeId} (vs:List Value):∀ (o:Nat) (w:World) (cs:Array Value),Blk w g t cs→o+vs.length≤cs.size →
  Blk (w.setCells g o vs) g t (cs.toList.take o++vs++cs.toList.drop (o+vs.length)).toArray:=by
 induction vs with
 | nil =>
  intro o w cs h _
  simpa [World.setCells] using h
 | cons v r ih =>
  intro o w cs h hle
  have hl:o+(r.length+1)≤cs.size:=by simpa using hle
  have h1:=ih (o+1) _ _ (h.set_ o v) (by rw [Array.size_setIfInBounds];omega)
  have e:(cs.setIfInBounds o v).toList.take (o+1)++r++(cs.setIfInBounds o v).toList.drop (o+1+r.length)=cs.toList.take o++(v::r)++cs.toList.drop (o+(v::r).length):=by
   rw [Array.toList_setIfInBounds,List.drop_set,if_pos (by omega),List.take_set,List.take_succ_eq_append_getElem (by simp;omega),List.set_append_right _ _ (by simp;omega)]
   simp only [List.length_take,Array.length_toList,List.length_cons,show o - min o cs.size=0 from by omega,List.set_cons_zero,List.append_assoc,List.cons_append,List.nil_append]
   rw [show o+1+r.length=o+(r.length+1) from by omega]
  rw [e] at h1
  exact h1
end Go.Proofs.YtlkolcokjmlmjaaGreat.Sh
namespace Go.Proofs.YtlkolcokjmlmjaaGreat.Tx
open Go.RowKit Go.Proofs.YtlkolcokjmlmjaaGreat.Sh
def bi (u:UInt8):Int:=(u.toNat:Int)
theorem bi_inj {a b:UInt8} (h:bi a=bi b):a=b:=by
 unfold bi at h;exact UInt8.toNat_inj.1 (by omega)
theorem bi_nat (u:UInt8):bi u=(u.toNat:Int):=rfl
def str (bs:List UInt8):ByteArray:=⟨bs.toArray⟩
theorem str_inj {a b:List UInt8} (h:str a=str b):a=b:=by
 unfold str at h
 injection h with h
 simpa using congrArg Array.toList h
theorem str_toList (bs:List UInt8):(str bs).toList=bs:=by
 rw [ByteArray.toList_eq]
 rfl
theorem str_size (cs:List UInt8):(str cs).size=cs.length:=by
 unfold str ByteArray.size
 simp
theorem index_str (cs:List UInt8) (k:Nat) (hk:k<cs.length) (w:World):(Instr.index 9 (.string (str cs)) (.int .i64 (k:Int))).run Tryz.prog w=.ok (.int .u8 (bi (cs.getD k 0))) w:=by
 have hsz:=str_size cs
 have hg:(str cs)[k]?=some cs[k]:=getElem?_pos (str cs) k (by rw [hsz];exact hk)
 simp [Instr.index,go_sem]
 rw [hg,List.getElem?_eq_getElem hk]
 unfold bi
 rfl
attribute [irreducible] bi
def lenOf:Value→Nat
 | .slice _ n _=>n
 | _=>0
def OwnV (E:TypeId) (w:World) (B:Nat) (v:Value) (vs:List Value):Prop:=w.ownsRow B E 1 v vs.length vs
def SlV (w:World) (v:Value) (vs:List Value):Prop:=∃ A c,v=.slice A vs.length c∧vs.length≤c∧c≤maxLen∧Reads w w.heap.size 1 A vs.length vs∧(A=none→vs=[])
section
variable {E:TypeId} {w w':World} {B:Nat} {v:Value} {vs:List Value}
theorem SlV.below (h:SlV w v vs) (hb:Below w.heap.size w w'):SlV w' v vs:=by
 obtain ⟨A,c,hv,h1,h2,h3,h4⟩:=h
 exact ⟨A,c,hv,h1,h2,(h3.below hb).more hb.size,h4⟩
theorem SlV.len (h:SlV w v vs):∃ A c,v=.slice A vs.length c∧vs.length≤c∧c≤maxLen∧Reads w w.heap.size 1 A vs.length vs:=by
 obtain ⟨A,c,hv,h1,h2,h3,_⟩:=h
 exact ⟨A,c,hv,h1,h2,h3⟩
theorem reads_at {A:Option Addr} {n:Nat} (h:Reads w B 1 A n vs) (k:Nat) (u:Value) (hk:vs[k]?=some u):∃ ad,A=some ad∧w.cell? (ad.add k)=some u:=by
 have hl:k<vs.length:=(List.getElem?_eq_some_iff.1 hk).1
 obtain ⟨ad,e,_,hc⟩:=h.2 (by have:=h.1;omega)
 exact ⟨ad,e,hc k u hk⟩
theorem OwnV.nil_ (w:World) (B:Nat):OwnV E w B (.slice none 0 0) []:=World.ownsRow_nil w B E 1
theorem OwnV.alloc (h:OwnV E w B v vs) (o:Obj):OwnV E (w.alloc o) B v vs:=World.ownsRow.alloc h o
theorem OwnV.drewN (h:OwnV E w B v vs) (n:Nat):OwnV E (w.drewN n) B v vs:=h
theorem OwnV.below (h:OwnV E w B v vs) (hb:Below w.heap.size w w'):OwnV E w' B v vs :=
 World.ownsRow.kept h (only_of_below hb none) (by cases hv:v.ownBlock <;> simp)
theorem OwnV.lt (h:OwnV E w B v vs) (k:Nat) (hk:v.ownBlock=some k):B≤k∧k<w.heap.size:=World.ownsRow.lt h k hk
theorem OwnV.length (h:OwnV E w B v vs):∃ A c,v=.slice A vs.length c∧vs.length≤c∧c≤maxLen:=by
 rcases h.2 with ⟨rfl,h0⟩ | ⟨g,cap,cur,rfl,_,_,hc,hm,_⟩
 ·exact ⟨none,0,by rw [h0],by rw [h0];exact Nat.zero_le _,by unfold maxLen;omega⟩
 ·exact ⟨_,_,rfl,hc,hm⟩
theorem OwnV.blk (h:OwnV E w B v vs):(v=.slice none 0 0∧vs=[])∨∃ g c cur,v=.slice (some ⟨g,0,none⟩) vs.length c∧B≤g∧g<w.heap.size∧Blk w g E cur∧vs.length≤c∧c≤maxLen∧cur.size=c∧cur.toList.take vs.length=vs:=by
 rcases h.2 with ⟨h1,h0⟩ | ⟨g,cap,cur,rfl,hb,hg,hc,hm,hcs,htk⟩
 ·exact .inl ⟨h1,List.eq_nil_of_length_eq_zero h0⟩
 ·exact .inr ⟨g,cap,cur,rfl,hb,(Array.getElem?_eq_some_iff.1 hg).1,hg,hc,hm,by simpa using hcs,by simpa using htk⟩
theorem OwnV.mk {g c:Nat} {cur:Array Value} (hb:B≤g) (hg:Blk w g E cur) (hc:vs.length≤c) (hm:c≤maxLen) (hs:cur.size=c) (ht:cur.toList.take vs.length=vs):OwnV E w B (.slice (some ⟨g,0,none⟩) vs.length c) vs :=
 ⟨by simp,Or.inr ⟨g,c,cur,rfl,hb,hg,hc,hm,by simpa using hs,by simpa using ht⟩⟩
theorem OwnV.base {B':Nat} (h:OwnV E w B v vs) (hB:B'≤B):OwnV E w B' v vs:=by
 refine ⟨h.1,?_⟩
 rcases h.2 with h0 | ⟨g,cap,cur,hv,hb,rest⟩
 ·exact .inl h0
 ·exact .inr ⟨g,cap,cur,hv,by omega,rest⟩
theorem OwnV.slv (h:OwnV E w B v vs):SlV w v vs:=by
 obtain ⟨A,c,hv,h1,h2⟩:=h.length
 have h':w.ownsRow B E 1 (.slice A vs.length c) vs.length vs:=by rw [← hv];exact h
 have hr:=Reads.of_own h'
 refine ⟨A,c,hv,h1,h2,hr,fun hA=>?_⟩
 rcases Nat.eq_zero_or_pos vs.length with h0 | h0
 ·exact List.eq_nil_of_length_eq_zero h0
 ·obtain ⟨ad,e,_⟩:=hr.2 h0
  rw [hA] at e
  cases e
theorem OwnV.cellAt {g n c:Nat} (h:OwnV E w B (.slice (some ⟨g,0,none⟩) n c) vs) (j:Nat) (u:Value) (hj:vs[j]?=some u):w.cell? ⟨g,j,none⟩=some u∧w.frozen? ⟨g,j,none⟩=false:=by
 rcases h.blk with ⟨he,_⟩ | ⟨g',c',cur,he,hb,hlt,hg,hc,hm,hs,ht⟩
 ·cases he
 ·injection he with e1 e2 e3
  injection e1 with e1
  injection e1 with e1 _ _
  subst e1 e3
  refine ⟨?_,hg.frozen j⟩
  have hl:j<vs.length:=(List.getElem?_eq_some_iff.1 hj).1
  have:(cur.toList.take vs.length)[j]?=some u:=by rw [ht];exact hj
  rw [List.getElem?_take,if_pos hl] at this
  rw [hg.cell,← Array.getElem?_toList,this]
theorem OwnV.setAt {g n c:Nat} (h:OwnV E w B (.slice (some ⟨g,0,none⟩) n c) vs) (j:Nat) (u:Value) :
  OwnV E (w.setCell ⟨g,j,none⟩ u) B (.slice (some ⟨g,0,none⟩) n c) (vs.set j u):=by
 rcases h.blk with ⟨he,_⟩ | ⟨g',c',cur,he,hb,hlt,hg,hc,hm,hs,ht⟩
 ·cases he
 ·injection he with e1 e2 e3
  injection e1 with e1
  injection e1 with e1 _ _
  subst e1 e3
  have hb2:=hg.set_ j u
  have el:vs.length=(vs.set j u).length:=List.length_set.symm
  rw [e2,el]
  refine OwnV.mk hb hb2 (by rw [List.length_set];exact hc) hm (by simpa using hs) ?_
  rw [Array.toList_setIfInBounds,List.take_set,List.length_set,ht]
theorem OwnV.apart (h:OwnV E w B v vs) {p:Addr} (hp:v.ownBlock≠some p.block) (u:Value):OwnV E (w.setCell p u) B v vs :=
 World.ownsRow.kept h (row:=some p.block) ⟨rfl,rfl,rfl,by simp [World.setCell],fun i _ hne=>Below.heap_setCell w p u i (fun e=>hne (by rw [e]))⟩ (.inr hp)
end
def iv (n:Int):Value:=.int .i64 n
def sv (s:ByteArray):Value:=.string s
theorem sv_one (l:List ByteArray):∀ u∈l.map sv,u.oneCell'=true:=by intro u hu;simp only [List.mem_map] at hu;obtain ⟨x,_,rfl⟩:=hu;rfl
theorem info_str:(Tryz.prog.info? 9).map (fun i=>(i.zero,i.size,i.bytes))=some (some (.string ⟨#[]⟩),1,16):=by kernel_rfl
def IsTexts (w:World) (a:Option Addr) (len cap:Nat) (ss:List ByteArray):Prop :=
 (a=none∧len=0∧cap=0∧ss=[]) ∨
 ∃ x,a=some x∧len≤cap∧cap≤maxLen∧ss.length=cap∧(∀ i,i<ss.length→w.cell? (x.add i)=some (.string (ss.getD i ByteArray.empty)))∧∀ s∈ss,s.size≤maxLen
theorem append_texts {ops:Array Oper} {rest:List Oper} {o:Oper} {a:Act} {Q:Exit→Act→World→Prop} (hgd:o.guard=none) (s x:Operand)
  (ho:o.op=.call { callee:=.builtin .append,args:=#[s,x],argTypes:=#[45,45] }) (w:World) (B:Nat) (v:Value) (ts:List ByteArray) (hs:a.eval s=v) (hown:OwnV 9 w B v (ts.map sv))
  (B':Nat) (A:Option Addr) (m c:Nat) (us:List ByteArray) (hx:a.eval x=.slice A m c) (hr:Reads w B' 1 A m (us.map sv)) (hsmall:ts.length+m≤2000000) (hB:B≤w.heap.size)
  (h:∀ v' w',OwnV 9 w' B v' ((ts++us).map sv)→Below B w w'→wpList Tryz.prog ops Q rest (a.put o.dst v') w'):wpList Tryz.prog ops Q (o::rest) a w:=by
 obtain ⟨i0,hi,hz0,hz1,hz2⟩:=info_parts info_str
 have hm:us.length=m:=by have:=hr.1;simpa using this
 have hown':w.ownsRow B 9 1 v ts.length (ts.map sv):=by have:=hown;unfold OwnV at this;rwa [List.length_map] at this
 refine wpList_append_any w hgd s x 45 ho B 9 i0 (.string ⟨#[]⟩) 1 16 Tryz.underlying45 hi hz0 hz1 hz2 rfl (by decide) v ts.length _ hs hown' B' A m c _ hx hr (sv_one us) (by unfold maxLen;omega) (by omega) hB ?_
 intro v' w' h1 h2 _
 refine h v' w' ?_ ((Below.refl _ _).grown h2 hB (fun k hk=>(hown'.lt k hk).1))
 unfold OwnV
 rw [List.length_map,List.length_append,hm,List.map_append]
 exact h1
theorem append_text {ops:Array Oper} {rest:List Oper} {o:Oper} {a:Act} {Q:Exit→Act→World→Prop} (hgd:o.guard=none) (s x:Operand)
  (ho:o.op=.call { callee:=.builtin .append,args:=#[s,x],argTypes:=#[45,45] }) (w:World) (B:Nat) (v:Value) (ts:List ByteArray) (hs:a.eval s=v) (hown:OwnV 9 w B v (ts.map sv))
  (u:ByteArray) (hx:a.eval x=.slice (some ⟨w.heap.size,0,none⟩) 1 1) (hsmall:ts.length+1≤2000000) (hB:B≤w.heap.size)
  (h:∀ v' w',OwnV 9 w' B v' ((ts++[u]).map sv)→Below B w w'→wpList Tryz.prog ops Q rest (a.put o.dst v') w'):wpList Tryz.prog ops Q (o::rest) a (w.alloc (.cells #[.string u] 9)):=by
 have hr:Reads (w.alloc (.cells #[.string u] 9)) (w.heap.size+1) 1 (some ⟨w.heap.size,0,none⟩) 1 ([u].map sv):=by
  refine ⟨rfl,fun _=>⟨_,rfl,by simp,fun j v hv=>?_⟩⟩
  rw [Addr.add_mid,cell_of_row _ _ _ _ 9 (0,0) (heap_alloc_new w _),Nat.zero_add,← hv]
  simp [sv]
 refine append_texts hgd s x ho _ B v ts hs (hown.alloc _) _ _ 1 1 [u] hx hr hsmall (by simp;omega) ?_
 intro v' w' h1 h2
 exact h v' w' h1 (((Below.refl _ _).alloc hB _).trans h2)
def TextsPost (w:World) (ts:List ByteArray) (e:Ending) (w':World):Prop:=∃ v,e=.returned v∧OwnV 9 w' w.heap.size v (ts.map sv)∧Below w.heap.size w w'
theorem texts_at {w:World} {A:Option Addr} {xs:List ByteArray} (h:Reads w w.heap.size 1 A xs.length (xs.map sv)) (k:Nat) (hk:k<xs.length):∃ ad,A=some ad∧w.cell? (ad.add k)=some (.string xs[k]) :=
 reads_at h k _ (by rw [List.getElem?_map,List.getElem?_eq_getElem hk];rfl)
end Go.Proofs.YtlkolcokjmlmjaaGreat.Tx
namespace Go.Proofs.YtlkolcokjmlmjaaGreat.Tx
open Go.RowKit Go.Proofs.YtlkolcokjmlmjaaGreat.Sh
def bv (u:UInt8):Value:=.int .u8 (bi u)
theorem bv_one (l:List UInt8):∀ u∈l.map bv,u.oneCell'=true:=by intro u hu;simp only [List.mem_map] at hu;obtain ⟨x,_,rfl⟩:=hu;rfl
theorem info_u8:(Tryz.prog.info? 5).map (fun i=>(i.zero,i.size,i.bytes))=some (some (.int .u8 0),1,1):=by kernel_rfl
theorem append_bytes {ops:Array Oper} {rest:List Oper} {o:Oper} {a:Act} {Q:Exit→Act→World→Prop} (hgd:o.guard=none) (s x:Operand)
  (ho:o.op=.call { callee:=.builtin .append,args:=#[s,x],argTypes:=#[32,32] }) (w:World) (B:Nat) (v:Value) (bs:List UInt8) (hs:a.eval s=v) (hown:OwnV 5 w B v (bs.map bv))
  (B':Nat) (A:Option Addr) (m c:Nat) (us:List UInt8) (hx:a.eval x=.slice A m c) (hr:Reads w B' 1 A m (us.map bv)) (hsmall:bs.length+m≤140737488355328) (hB:B≤w.heap.size)
  (h:∀ v' w',OwnV 5 w' B v' ((bs++us).map bv)→Below B w w'→wpList Tryz.prog ops Q rest (a.put o.dst v') w'):wpList Tryz.prog ops Q (o::rest) a w:=by
 obtain ⟨i0,hi,hz0,hz1,hz2⟩:=info_parts info_u8
 have hm:us.length=m:=by have:=hr.1;simpa using this
 have hown':w.ownsRow B 5 1 v bs.length (bs.map bv):=by have:=hown;unfold OwnV at this;rwa [List.length_map] at this
 refine wpList_append_any w hgd s x 32 ho B 5 i0 (.int .u8 0) 1 1 Tryz.underlying32 hi hz0 hz1 hz2 rfl (by decide) v bs.length _ hs hown' B' A m c _ hx hr (bv_one us) (by unfold maxLen;omega) (by omega) hB ?_
 intro v' w' h1 h2 _
 refine h v' w' ?_ ((Below.refl _ _).grown h2 hB (fun k hk=>(hown'.lt k hk).1))
 unfold OwnV
 rw [List.length_map,List.length_append,hm,List.map_append]
 exact h1
theorem str_push (ns:List UInt8):∀ base:List UInt8,((ns.map bi).foldl (fun r n=>r.push (UInt8.ofNat n.toNat)) (str base))=str (base++ns):=by
 induction ns with
 | nil=>intro base;simp
 | cons n ns ih =>
  intro base
  have e:(str base).push (UInt8.ofNat (bi n).toNat)=str (base++[n]):=by
   have h:UInt8.ofNat (bi n).toNat=n:=by rw [bi_nat];simp
   rw [h]
   unfold str ByteArray.push
   simp
  rw [List.map_cons,List.foldl_cons,e,ih]
  simp
set_option maxRecDepth 100000 in
theorem conv_str (w:World) (A:Option Addr) (bs:List UInt8) (n c:Nat) (hn:bs.length=n) (h:SlV w (.slice A n c) (bs.map bv)) :
  (convert 32 9 (.slice A n c)).run Tryz.prog w=.ok (.string (str bs)) w:=by
 subst hn
 obtain ⟨A',c',hv,_,_,hr,hA⟩:=h
 injection hv with e1 e2 e3
 subst e1 e3
 rw [run_convert_bytes_string w 32 9 5 A bs.length c Tryz.underlying32 Tryz.underlying5 Tryz.underlying9]
 rcases A with _ | ad
 ·have h0:bs=[]:=by simpa using hA rfl
  subst h0
  simp [Conv.bytesToString,Sem.run_pure,str]
  rfl
 ·have hl:(loadCells ad bs.length).run Tryz.prog w=.ok ((bs.map bi).map (Value.int .u8)).toArray w:=by
   have:=run_loadCells_list (P:=Tryz.prog) w ad (bs.map bv) (fun j v hv=>by
    obtain ⟨ad',e,hc⟩:=reads_at hr j v hv
    injection e with e
    rw [e]
    exact hc)
   have e:(bs.map bi).map (Value.int .u8)=bs.map bv:=by rw [List.map_map];rfl
   rw [e]
   simpa using this
  rw [run_bytesToString w ad bs.length c _ hl]
  have:=str_push bs []
  rw [List.nil_append] at this
  have e0:ByteArray.empty=str []:=rfl
  rw [e0,this]
end Go.Proofs.YtlkolcokjmlmjaaGreat.Tx
