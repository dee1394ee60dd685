/- Texts put together: VFx0, VFx1, VFx2. -/
import Derived.Test.YtlkolcokjmlmjaaGreatQv02
import Derived.Test.YtlkolcokjmlmjaaGreatQv04
import Derived.Test.YtlkolcokjmlmjaaGreatQv03
namespace Go.Proofs.YtlkolcokjmlmjaaGreat.Tx
open Go.RowKit Go.Proofs.YtlkolcokjmlmjaaGreat.Sh
def By (F:Nat→Prop) (w:World) (v:Value) (bs:List UInt8):Prop:=Rd F w 1 v bs.length (bs.map bv)
def rowC (r:RowM) (d:Value):List Value:=[.string (str r.path),iv r.f.mode,d,iv r.f.time]
def rowsC (R:List RowM) (ds:List Value):List Value:=(List.zipWith rowC R ds).flatten
def Datas (F:Nat→Prop) (w:World) (ds:List Value) (bss:List (List UInt8)):Prop:=ds.length=bss.length∧∀ (i:Nat) (d:Value) (bs:List UInt8),ds[i]?=some d→bss[i]?=some bs→By F w d bs
def RowsIn (F:Nat→Prop) (w:World) (v:Value) (R:List RowM):Prop:=∃ ds,Rd F w 4 v R.length (rowsC R ds)∧Datas F w ds (R.map fun r=>r.f.data)
theorem flat_at {α:Type} {m:Nat}:∀ {l:List (List α)},(∀ x∈l,x.length=m)→∀ (k:Nat) (x:List α),l[k]?=some x→∀ (j:Nat) (u:α),x[j]?=some u→l.flatten[k*m+j]?=some u
 | [],_,k,x,h,_,_,_=>by simp at h
 | y::r,hl,0,x,h,j,u,hu=>by
  simp at h
  subst h
  rw [List.flatten_cons,Nat.zero_mul,Nat.zero_add,List.getElem?_append_left (List.getElem?_eq_some_iff.1 hu).1]
  exact hu
 | y::r,hl,k+1,x,h,j,u,hu=>by
  have hy:y.length=m:=hl y List.mem_cons_self
  rw [List.getElem?_cons_succ] at h
  rw [List.flatten_cons,List.getElem?_append_right (by rw [hy,Nat.add_mul];omega),hy,show (k+1)*m+j - m=k*m+j from by rw [Nat.add_mul];omega]
  exact flat_at (fun z hz=>hl z (List.mem_cons_of_mem _ hz)) k x h j u hu
theorem zip_at {α β γ:Type} {f:α→β→γ} {l:List α} {m:List β} {k:Nat} {a:α} {b:β} (h1:l[k]?=some a) (h2:m[k]?=some b):(List.zipWith f l m)[k]?=some (f a b):=by
 rw [List.getElem?_zipWith,h1,h2]
theorem rowsC_at {R:List RowM} {ds:List Value} {k:Nat} {r:RowM} {d:Value} (h1:R[k]?=some r) (h2:ds[k]?=some d) (j:Nat) (u:Value) (hu:(rowC r d)[j]?=some u):(rowsC R ds)[k*4+j]?=some u:=by
 refine flat_at (m:=4) (fun x hx=>?_) k _ (zip_at h1 h2) j u hu
 obtain ⟨i,hi,e⟩:=List.getElem_of_mem hx
 rw [List.getElem_zipWith] at e
 rw [← e]
 rfl
theorem rowsC_length {R:List RowM} {ds:List Value} (h:ds.length=R.length):(rowsC R ds).length=R.length*4:=by
 unfold rowsC
 rw [List.length_flatten]
 have:(List.zipWith rowC R ds).map List.length=List.replicate R.length 4:=by
  apply List.ext_getElem
  ·simp [h]
  ·intro i h1 h2
   simp [rowC]
 rw [this,List.sum_replicate_nat]
theorem rowsC_one {R:List RowM} {ds:List Value} (hd:∀ d∈ds,d.oneCell'=true):∀ u∈rowsC R ds,u.oneCell'=true:=by
 intro u hu
 unfold rowsC at hu
 obtain ⟨x,hx,hux⟩:=List.mem_flatten.1 hu
 obtain ⟨i,hi,e⟩:=List.getElem_of_mem hx
 rw [List.getElem_zipWith] at e
 rw [← e] at hux
 simp only [rowC,List.mem_cons,List.not_mem_nil,or_false] at hux
 rcases hux with rfl | rfl | rfl | rfl
 ·rfl
 ·rfl
 ·exact hd _ (List.getElem_mem _)
 ·rfl
theorem By.slice {F:Nat→Prop} {w:World} {v:Value} {bs:List UInt8} (h:By F w v bs):∃ A c,v=.slice A bs.length c∧bs.length≤c∧c≤maxLen:=by
 obtain ⟨A,c,h1,h2,h3,_⟩:=h
 exact ⟨A,c,h1,h2,h3⟩
theorem By.one {F:Nat→Prop} {w:World} {v:Value} {bs:List UInt8} (h:By F w v bs):v.oneCell'=true:=by
 obtain ⟨A,c,rfl,_⟩:=h
 rfl
theorem By.only {F M:Nat→Prop} {w w':World} {v:Value} {bs:List UInt8} (h:By F w v bs) (ho:Only M w w') (hd:∀ k,F k→¬ M k):By F w' v bs:=Rd.only h ho hd
theorem By.mono {F F':Nat→Prop} {w:World} {v:Value} {bs:List UInt8} (h:By F w v bs) (hF:∀ k,k<w.heap.size→F k→F' k):By F' w v bs:=Rd.mono h hF
theorem Datas.only {F M:Nat→Prop} {w w':World} {ds:List Value} {bss:List (List UInt8)} (h:Datas F w ds bss) (ho:Only M w w') (hd:∀ k,F k→¬ M k):Datas F w' ds bss :=
 ⟨h.1,fun i d bs h1 h2=>(h.2 i d bs h1 h2).only ho hd⟩
theorem Datas.mono {F F':Nat→Prop} {w:World} {ds:List Value} {bss:List (List UInt8)} (h:Datas F w ds bss) (hF:∀ k,k<w.heap.size→F k→F' k):Datas F' w ds bss :=
 ⟨h.1,fun i d bs h1 h2=>(h.2 i d bs h1 h2).mono hF⟩
theorem Datas.one {F:Nat→Prop} {w:World} {ds:List Value} {bss:List (List UInt8)} (h:Datas F w ds bss):∀ d∈ds,d.oneCell'=true:=by
 intro d hd
 obtain ⟨i,hi,rfl⟩:=List.getElem_of_mem hd
 exact (h.2 i _ _ (List.getElem?_eq_getElem hi) (List.getElem?_eq_getElem (by rw [← h.1];exact hi))).one
theorem Datas.app {F:Nat→Prop} {w:World} {ds es:List Value} {bss css:List (List UInt8)} (h:Datas F w ds bss) (h2:Datas F w es css):Datas F w (ds++es) (bss++css):=by
 refine ⟨by simp [h.1,h2.1],fun i e b h3 h4=>?_⟩
 by_cases hi:i<ds.length
 ·rw [List.getElem?_append_left hi] at h3
  rw [List.getElem?_append_left (by rw [← h.1];exact hi)] at h4
  exact h.2 i e b h3 h4
 ·rw [List.getElem?_append_right (by omega)] at h3
  rw [List.getElem?_append_right (by rw [← h.1];omega),← h.1] at h4
  exact h2.2 _ e b h3 h4
theorem Datas.nil_ {F:Nat→Prop} {w:World}:Datas F w [] []:=⟨rfl,fun i d bs h=>by simp at h⟩
theorem Datas.at_ {F:Nat→Prop} {w:World} {ds:List Value} {bss:List (List UInt8)} (h:Datas F w ds bss) {i:Nat} {bs:List UInt8} (hi:bss[i]?=some bs):∃ d,ds[i]?=some d∧By F w d bs:=by
 have hl:i<ds.length:=by rw [h.1];exact (List.getElem?_eq_some_iff.1 hi).1
 exact ⟨ds[i],List.getElem?_eq_getElem hl,h.2 i _ _ (List.getElem?_eq_getElem hl) hi⟩
theorem RowsIn.only {F M:Nat→Prop} {w w':World} {v:Value} {R:List RowM} (h:RowsIn F w v R) (ho:Only M w w') (hd:∀ k,F k→¬ M k):RowsIn F w' v R:=by
 obtain ⟨ds,h1,h2⟩:=h
 exact ⟨ds,h1.only ho hd,h2.only ho hd⟩
theorem RowsIn.mono {F F':Nat→Prop} {w:World} {v:Value} {R:List RowM} (h:RowsIn F w v R) (hF:∀ k,k<w.heap.size→F k→F' k):RowsIn F' w v R:=by
 obtain ⟨ds,h1,h2⟩:=h
 exact ⟨ds,h1.mono hF,h2.mono hF⟩
theorem RowsIn.below {F:Nat→Prop} {w w':World} {v:Value} {R:List RowM} (h:RowsIn F w v R) (hb:Below w.heap.size w w'):RowsIn F w' v R:=h.only (Only.of_below (M:=fun _=>False) hb) (fun _ _=>id)
theorem RowsIn.nil_ (F:Nat→Prop) (w:World):RowsIn F w (.slice none 0 0) []:=⟨[],Rd.nil_ F w 4,Datas.nil_⟩
theorem RowsIn.slice {F:Nat→Prop} {w:World} {v:Value} {R:List RowM} (h:RowsIn F w v R):∃ A c,v=.slice A R.length c∧R.length≤c∧c≤maxLen:=by
 obtain ⟨ds,⟨A,c,h1,h2,h3,_⟩,_⟩:=h
 exact ⟨A,c,h1,h2,h3⟩
theorem RowsIn.at_ {F:Nat→Prop} {w:World} {A:Option Addr} {n c:Nat} {R:List RowM} (h:RowsIn F w (.slice A n c) R) (k:Nat) (r:RowM) (hk:R[k]?=some r) :
  ∃ (ad:Addr) (d:Value),A=some ad∧By F w d r.f.data∧w.cell? (ad.add (k*4))=some (.string (str r.path))∧w.cell? ⟨(ad.add (k*4)).block,(ad.add (k*4)).off+1,none⟩=some (.int .i64 r.f.mode) ∧
   w.cell? ⟨(ad.add (k*4)).block,(ad.add (k*4)).off+2,none⟩=some d∧w.cell? ⟨(ad.add (k*4)).block,(ad.add (k*4)).off+3,none⟩=some (.int .i64 r.f.time):=by
 obtain ⟨ds,⟨A',c',hv,_,_,_,_,h5⟩,hd⟩:=h
 injection hv with e1 e2 e3
 subst e1
 have hkl:=(List.getElem?_eq_some_iff.1 hk).1
 obtain ⟨ad,hA,_,_,hc⟩:=h5 (by omega)
 obtain ⟨d,hdk,hby⟩:=hd.at_ (i:=k) (bs:=r.f.data) (by rw [List.getElem?_map,hk];rfl)
 refine ⟨ad,d,hA,hby,?_,?_,?_,?_⟩
 ·have:=hc (k*4+0) _ (rowsC_at hk hdk 0 _ rfl)
  exact this
 ·have:=hc (k*4+1) _ (rowsC_at hk hdk 1 _ rfl)
  rw [add_field _ _ 1 (by omega)] at this
  exact this
 ·have:=hc (k*4+2) _ (rowsC_at hk hdk 2 _ rfl)
  rw [add_field _ _ 2 (by omega)] at this
  exact this
 ·have:=hc (k*4+3) _ (rowsC_at hk hdk 3 _ rfl)
  rw [add_field _ _ 3 (by omega)] at this
  exact this
end Go.Proofs.YtlkolcokjmlmjaaGreat.Tx
namespace Go.Proofs.YtlkolcokjmlmjaaGreat.Tx
open Go.RowKit Go.Proofs.YtlkolcokjmlmjaaGreat.Sh
def findZ (R:List RowM) (p:List UInt8):Int:=match findM R p with
 | none=>-1
 | some i=>(i:Int)
theorem find_hit {R:List RowM} {p:List UInt8} {k:Nat} {r:RowM} (hk:R[k]?=some r) (he:r.path=p) (hno:∀ (j:Nat) (x:RowM),j<k→R[j]?=some x→x.path≠p):findM R p=some k:=by
 unfold findM
 obtain ⟨hl,e⟩:=List.getElem?_eq_some_iff.1 hk
 rw [List.findIdx?_eq_some_iff_getElem]
 refine ⟨hl,by rw [e,he];exact beq_self_eq_true p,fun j hj=>?_⟩
 have:=hno j _ hj (List.getElem?_eq_getElem (by omega))
 simpa using this
theorem find_none {R:List RowM} {p:List UInt8} (hno:∀ (j:Nat) (x:RowM),R[j]?=some x→x.path≠p):findM R p=none:=by
 unfold findM
 rw [List.findIdx?_eq_none_iff]
 intro x hx
 obtain ⟨i,hi,rfl⟩:=List.getElem_of_mem hx
 simpa using hno i _ (List.getElem?_eq_getElem hi)
theorem str_ne {a b:List UInt8} (h:a≠b):((str a).toList==(str b).toList)=false:=by rw [str_toList,str_toList];exact list_other h
theorem str_eq' {a b:List UInt8} (h:a=b):((str a).toList==(str b).toList)=true:=by subst h;exact beq_self_eq_true _
set_option maxRecDepth 100000 in
set_option maxHeartbeats 400000 in
theorem rfind_any (F:Nat→Prop) (v:Value) (R:List RowM) (p:List UInt8) (w:World) (h:RowsIn F w v R):Calls Tryz.prog 118 #[v,.string (str p)] w fun e w'=>e=.returned (.int .i64 (findZ R p))∧w=w':=by
 obtain ⟨A,c,rfl,hlc,hcm⟩:=h.slice
 unfold maxLen at hcm
 have H:=Lib.hid h
 obtain ⟨n,hN⟩:∃ n,R.length=n:=⟨_,rfl⟩
 rw [hN] at hlc H ⊢
 have HN:=Lib.hid hN
 clear h hN
 go_enter Tryz.func118,Tryz.ntmps118
 go_wp2
 go_loop [5] (fun i=>∃ k:Nat,k≤n∧i=.int .i64 k∧∀ (j:Nat) (x:RowM),j<k→R[j]?=some x→x.path≠p) (fun i=>n - (intOf i).toNat)
 case atStart=>exact ⟨0,Nat.zero_le _,rfl,fun j x hj=>by omega⟩
 case round =>
  obtain ⟨k,hk,rfl,hno⟩:=hrel
  have HNO:=Lib.hid hno
  have k0:(0:Int)≤(k:Int):=by omega
  clear hno
  by_cases hlt:k<n
  ·have k1:(k:Int)<(n:Int):=by omega
   obtain ⟨r,hr⟩:∃ r,R[k]?=some r:=⟨_,List.getElem?_eq_getElem (by rw [HN.out];exact hlt)⟩
   obtain ⟨ad,d,rfl,_,hc0,_,_,_⟩:=H.out.at_ k r hr
   have HR:=Lib.hid hr
   clear hr
   by_cases he:r.path=p
   ·have e1:=str_eq' he
    have hz:findZ R p=(k:Int):=by unfold findZ;rw [find_hit HR.out he HNO.out]
    have HZ:=Lib.hid hz
    clear hz he
    go_wp2
    go_ret
    exact ⟨by rw [HZ.out];rfl,rfl⟩
   ·have e1:=str_ne he
    go_wp2
    go_round
    case rel =>
     refine ⟨k+1,by omega,by go_num,fun j x hj hx=>?_⟩
     by_cases e:j=k
     ·subst e;rw [HR.out] at hx;injection hx with hx;rw [← hx];exact he
     ·exact HNO.out j x (by omega) hx
    case measure=>simp [intOf];omega
  ·have hz:findZ R p=-1:=by
    unfold findZ
    rw [find_none fun j x hx=>HNO.out j x (by have:=(List.getElem?_eq_some_iff.1 hx).1;rw [HN.out] at this;omega) hx]
   have HZ:=Lib.hid hz
   clear hz
   go_wp2
   go_ret
   exact ⟨by rw [HZ.out];rfl,rfl⟩
theorem used_take {R:List RowM} {k:Nat} {r:RowM} (h:R[k]?=some r):usedM (R.take (k+1))=usedM (R.take k)+r.f.data.length:=by
 obtain ⟨hl,e⟩:=List.getElem?_eq_some_iff.1 h
 unfold usedM
 rw [List.take_succ_eq_append_getElem hl,e,List.map_append,List.sum_append_nat]
 simp
theorem used_le (R:List RowM) (k:Nat):usedM (R.take k)≤usedM R:=by
 unfold usedM
 have h:(R.map fun r=>r.f.data.length)=(R.take k).map (fun r=>r.f.data.length)++(R.drop k).map (fun r=>r.f.data.length):=by rw [← List.map_append,List.take_append_drop]
 rw [h,List.sum_append_nat]
 omega
set_option maxRecDepth 100000 in
set_option maxHeartbeats 400000 in
theorem rused_any (F:Nat→Prop) (v:Value) (R:List RowM) (w:World) (h:RowsIn F w v R) (hu:usedM R≤4000000000000):Calls Tryz.prog 117 #[v] w fun e w'=>e=.returned (.int .i64 (usedM R:Int))∧w=w':=by
 obtain ⟨A,c,rfl,hlc,hcm⟩:=h.slice
 unfold maxLen at hcm
 have H:=Lib.hid h
 obtain ⟨n,hN⟩:∃ n,R.length=n:=⟨_,rfl⟩
 rw [hN] at hlc H ⊢
 have HN:=Lib.hid hN
 clear h hN
 go_enter Tryz.func117,Tryz.ntmps117
 go_wp2
 go_loop [3,4] (fun s i=>∃ k:Nat,k≤n∧i=.int .i64 k∧s=.int .i64 (usedM (R.take k):Int)) (fun _ i=>n - (intOf i).toNat)
 case atStart=>exact ⟨0,Nat.zero_le _,rfl,rfl⟩
 case round =>
  obtain ⟨k,hk,rfl,rfl⟩:=hrel
  have k0:(0:Int)≤(k:Int):=by omega
  have hle:=used_le R k
  by_cases hlt:k<n
  ·have k1:(k:Int)<(n:Int):=by omega
   obtain ⟨r,hr⟩:∃ r,R[k]?=some r:=⟨_,List.getElem?_eq_getElem (by rw [HN.out];exact hlt)⟩
   obtain ⟨ad,d,rfl,hby,_,_,hc2,_⟩:=H.out.at_ k r hr
   obtain ⟨Ad,cd,rfl,hdc,hdm⟩:=hby.slice
   have hnx:=used_take hr
   have hle2:=used_le R (k+1)
   obtain ⟨s,hs⟩:∃ s,usedM (R.take k)=s:=⟨_,rfl⟩
   obtain ⟨m,hm⟩:∃ m,r.f.data.length=m:=⟨_,rfl⟩
   rw [hs,hm] at hnx
   rw [hs] at hle ⊢
   rw [hm] at hc2 hdc
   unfold maxLen at hdm
   have HNX:=Lib.hid hnx
   have s0:(0:Int)≤(s:Int):=by omega
   have s1:(s:Int)≤4000000000000:=by omega
   have m0:(0:Int)≤(m:Int):=by omega
   have m1:(m:Int)≤4000000000000:=by omega
   clear hnx hs hm hr hby hle hle2 hu
   go_wp2
   go_round
   case rel=>exact ⟨k+1,by omega,by go_num,by rw [HNX.out];go_num⟩
   case measure=>simp [intOf];omega
  ·have hT:R.take k=R:=List.take_of_length_le (by rw [HN.out];omega)
   rw [hT]
   clear hT hle hu
   go_wp2
   go_ret
   exact ⟨rfl,rfl⟩
end Go.Proofs.YtlkolcokjmlmjaaGreat.Tx
namespace Go.Proofs.YtlkolcokjmlmjaaGreat.Tx
open Go.RowKit Go.Proofs.YtlkolcokjmlmjaaGreat.Sh
theorem info_row:(Tryz.prog.info? 128).map (fun i=>(i.zero,i.size,i.bytes))=some (some (.agg #[.string ⟨#[]⟩,.int .i64 0,.slice none 0 0,.int .i64 0]),4,56):=by kernel_rfl
def RowsOwn (F:Nat→Prop) (w:World) (B:Nat) (v:Value) (R:List RowM):Prop:=(∃ ds,w.ownsRow B 128 4 v R.length (rowsC R ds)∧Datas F w ds (R.map fun r=>r.f.data))∧∀ k,v.ownBlock=some k→¬ F k
def RowsTmp (F:Nat→Prop) (w:World) (v:Value) (R:List RowM):Prop:=∃ ds,Rd (fun _=>True) w 4 v R.length (rowsC R ds)∧Datas F w ds (R.map fun r=>r.f.data)
theorem RowsIn.tmp {F:Nat→Prop} {w:World} {v:Value} {R:List RowM} (h:RowsIn F w v R):RowsTmp F w v R:=by
 obtain ⟨ds,h1,h2⟩:=h
 exact ⟨ds,h1.mono (fun _ _ _=>trivial),h2⟩
theorem RowsOwn.nil_ (F:Nat→Prop) (w:World) (B:Nat):RowsOwn F w B (.slice none 0 0) []:=⟨⟨[],World.ownsRow_nil w B _ 4,Datas.nil_⟩,fun k h=>by cases h⟩
theorem RowsOwn.alloc {F:Nat→Prop} {w:World} {B:Nat} {v:Value} {R:List RowM} (h:RowsOwn F w B v R) (o:Obj):RowsOwn F (w.alloc o) B v R:=by
 obtain ⟨⟨ds,h1,h2⟩,h3⟩:=h
 exact ⟨⟨ds,h1.alloc o,h2.only ((Only.refl (fun _=>False) w).alloc o) (fun _ _=>id)⟩,h3⟩
theorem rowsC_app {R S:List RowM} {ds es:List Value} (h:ds.length=R.length):rowsC (R++S) (ds++es)=rowsC R ds++rowsC S es:=by
 unfold rowsC
 rw [List.zipWith_append h.symm,List.flatten_append]
theorem append_rows {ops:Array Oper} {rest:List Oper} {o:Oper} {a:Act} {Q:Exit→Act→World→Prop} (hgd:o.guard=none) (s x:Operand)
  (ho:o.op=.call { callee:=.builtin .append,args:=#[s,x],argTypes:=#[69,69] }) (F:Nat→Prop) (w:World) (B:Nat) (v:Value) (R:List RowM) (hs:a.eval s=v) (hown:RowsOwn F w B v R)
  (ex:Value) (S:List RowM) (hx:a.eval x=ex) (hr:RowsTmp F w ex S) (hsmall:R.length+S.length≤2000000) (hB:B≤w.heap.size) (hF:∀ k,F k→k<w.heap.size)
  (h:∀ v' w',RowsOwn F w' B v' (R++S)→w.grownBy w' v.ownBlock→Below B w w'→wpList Tryz.prog ops Q rest (a.put o.dst v') w'):wpList Tryz.prog ops Q (o::rest) a w:=by
 obtain ⟨i0,hi,hz0,hz1,hz2⟩:=info_parts info_row
 obtain ⟨⟨ds,hown',hds⟩,hne⟩:=hown
 obtain ⟨es,hrd,hes⟩:=hr
 obtain ⟨A,c,rfl,h1,h2,hrr⟩:=hrd.reads
 refine wpList_append_any w hgd s x 69 ho B 128 i0 _ 4 56 Tryz.underlying69 hi hz0 hz1 hz2 rfl (by decide) v R.length _ hs hown' w.heap.size A S.length c _ hx hrr (rowsC_one hes.one) (by unfold maxLen;omega) (by omega) hB ?_
 intro v' w' g1 g2 g3
 have hb:Below B w w':=(Below.refl _ _).grown g2 hB (fun k hk=>(hown'.lt k hk).1)
 have ho:Only (fun k=>v.ownBlock=some k) w w':=⟨g2.os,g2.tape,g2.output,g2.size,fun k hk hn=>g2.block k hk (fun e=>hn e.symm)⟩
 refine h v' w' ⟨⟨ds++es,?_,?_⟩,fun k hk=>?_⟩ g2 hb
 ·rw [List.length_append,rowsC_app (by rw [hds.1];simp)]
  exact g1
 ·rw [List.map_append]
  exact (hds.only ho (fun k hk he=>hne k he hk)).app (hes.only ho (fun k hk he=>hne k he hk))
 ·rcases g3 with g3 | g3
  ·exact hne k (by rw [← g3];exact hk)
  ·rw [g3] at hk
   injection hk with hk
   intro hf
   have:=hF k hf
   omega
theorem rows_new (F:Nat→Prop) (w:World) (r:RowM) (d:Value) (hd:By F w d r.f.data):RowsTmp F (w.alloc (.cells #[.string (str r.path),.int .i64 r.f.mode,d,.int .i64 r.f.time] 128)) (.slice (some ⟨w.heap.size,0,none⟩) 1 1) [r]:=by
 refine ⟨[d],⟨some ⟨w.heap.size,0,none⟩,1,rfl,Nat.le_refl _,by unfold maxLen;omega,rfl,(fun e=>by cases e),fun _=>⟨_,rfl,trivial,by simp,fun j u hu=>?_⟩⟩,?_⟩
 ·rw [Addr.add_mid,cell_of_row _ _ _ _ 128 (0,0) (heap_alloc_new w _),Nat.zero_add,← hu]
  simp [rowsC,rowC,iv,List.getElem?_toArray]
 ·refine ⟨rfl,fun i e b h1 h2=>?_⟩
  have hi:i=0:=by have:=(List.getElem?_eq_some_iff.1 h1).1;simpa using this
  subst hi
  simp at h1 h2
  subst h1 h2
  exact (hd.only ((Only.refl (fun _=>False) w).alloc _) (fun _ _=>id))
set_option maxRecDepth 100000 in
set_option maxHeartbeats 400000 in
theorem rmay_any (F:Nat→Prop) (v:Value) (R:List RowM) (p:List UInt8) (w:World) (h:RowsIn F w v R) (hp:p.length≤1000000) (hR:∀ r∈R,r.path.length≤1000000):Calls Tryz.prog 129 #[v,.string (str p)] w (BoolPost w (mayM R p)):=by
 obtain ⟨A,c,rfl,hlc,hcm⟩:=h.slice
 unfold maxLen at hcm
 have H:=Lib.hid h
 have HLEN:=Lib.hid hR
 obtain ⟨n,hN⟩:∃ n,R.length=n:=⟨_,rfl⟩
 rw [hN] at hlc H ⊢
 have HN:=Lib.hid hN
 clear h hN hR
 go_enter Tryz.func129,Tryz.ntmps129
 go_wp2
 go_loopw [5] (fun i wr=>∃ k:Nat,k≤n∧i=.int .i64 k∧(∀ (j:Nat) (x:RowM),j<k→R[j]?=some x→(underB p x.path||underB x.path p)=false)∧Below w.heap.size w wr) (fun i _=>n - (intOf i).toNat)
 case atStart=>exact ⟨0,Nat.zero_le _,rfl,fun j x hj=>by omega,Below.refl _ _⟩
 case round =>
  obtain ⟨k,hk,rfl,hno,hb⟩:=hrel
  have HNO:=Lib.hid hno
  have HB:=Lib.hid hb
  have hwz:=hb.size
  have k0:(0:Int)≤(k:Int):=by omega
  clear hno hb
  by_cases hlt:k<n
  ·have k1:(k:Int)<(n:Int):=by omega
   obtain ⟨r,hr⟩:∃ r,R[k]?=some r:=⟨_,List.getElem?_eq_getElem (by rw [HN.out];exact hlt)⟩
   obtain ⟨ad,d,rfl,_,hc0,_,_,_⟩:=(H.out.below HB.out).at_ k r hr
   have hrl:r.path.length≤1000000:=HLEN.out r (List.mem_of_getElem? hr)
   have HR:=Lib.hid hr
   obtain ⟨t1,ht1⟩:∃ t,underB p r.path=t:=⟨_,rfl⟩
   obtain ⟨t2,ht2⟩:∃ t,underB r.path p=t:=⟨_,rfl⟩
   have HT1:=Lib.hid ht1
   have HT2:=Lib.hid ht2
   clear hr ht1 ht2
   go_wp2_with fail
   refine (runder_any p r.path _ hp hrl).mono ?_
   rintro e w2 ⟨rfl,hb2⟩
   rw [HT1.out]
   have HB2:=Lib.hid (HB.out.trans (hb2.mono hwz))
   clear hb2
   cases t1 with
   | true =>
    have HM:Hid (mayM R p=false):=by
     unfold Hid mayM
     rw [List.all_eq_false]
     exact ⟨r,List.mem_of_getElem? HR.out,by rw [HT1.out];simp⟩
    go_wp2
    go_ret
    exact ⟨by rw [HM.out];rfl,HB2.out⟩
   | false =>
    have hwz2:=HB2.out.size
    obtain ⟨ad',d',hA,_,hc0',_,_,_⟩:=(H.out.below HB2.out).at_ k r HR.out
    injection hA with hA
    subst hA
    go_wp2_with fail
    refine (runder_any r.path p _ hrl hp).mono ?_
    rintro e w3 ⟨rfl,hb3⟩
    rw [HT2.out]
    have HB3:=Lib.hid (HB2.out.trans (hb3.mono hwz2))
    clear hb3
    cases t2 with
    | true =>
     have HM:Hid (mayM R p=false):=by
      unfold Hid mayM
      rw [List.all_eq_false]
      exact ⟨r,List.mem_of_getElem? HR.out,by rw [HT2.out];simp⟩
     go_wp2
     go_ret
     exact ⟨by rw [HM.out];rfl,HB3.out⟩
    | false =>
     go_wp2
     go_roundw
     case rel =>
      refine ⟨k+1,by omega,by go_num,fun j x hj hx=>?_,HB3.out⟩
      by_cases e:j=k
      ·subst e;rw [HR.out] at hx;injection hx with hx;rw [← hx,HT1.out,HT2.out];rfl
      ·exact HNO.out j x (by omega) hx
     case measure=>simp [intOf];omega
  ·have HM:Hid (mayM R p=true):=by
    unfold Hid mayM
    rw [List.all_eq_true]
    intro x hx
    obtain ⟨i,hi,rfl⟩:=List.getElem_of_mem hx
    rw [HNO.out i _ (by rw [HN.out] at hi;omega) (List.getElem?_eq_getElem hi)]
    rfl
   go_wp2
   go_ret
   exact ⟨by rw [HM.out];rfl,HB.out⟩
theorem without_take {R:List RowM} {p:List UInt8} {k:Nat} {r:RowM} (h:R[k]?=some r):withoutM (R.take (k+1)) p=withoutM (R.take k) p++(if r.path=p then [] else [r]):=by
 obtain ⟨hl,e⟩:=List.getElem?_eq_some_iff.1 h
 unfold withoutM
 rw [List.take_succ_eq_append_getElem hl,e,List.filter_append]
 by_cases hp:r.path=p
 ·simp [hp]
 ·simp [hp]
theorem without_le (R:List RowM) (p:List UInt8):(withoutM R p).length≤R.length:=List.length_filter_le _ _
set_option maxRecDepth 100000 in
set_option maxHeartbeats 800000 in
theorem rwithout_any (F:Nat→Prop) (v:Value) (R:List RowM) (p:List UInt8) (w:World) (h:RowsIn F w v R) (hn:R.length≤1000000) (hF:∀ k,F k→k<w.heap.size) :
  Calls Tryz.prog 131 #[v,.string (str p)] w fun e w'=>∃ v',e=.returned v'∧RowsOwn F w' w.heap.size v' (withoutM R p)∧Below w.heap.size w w':=by
 obtain ⟨A,c,rfl,hlc,hcm⟩:=h.slice
 unfold maxLen at hcm
 have H:=Lib.hid h
 have HF:=Lib.hid hF
 obtain ⟨n,hN⟩:∃ n,R.length=n:=⟨_,rfl⟩
 rw [hN] at hlc hn H ⊢
 have HN:=Lib.hid hN
 clear h hN hF
 go_enter Tryz.func131,Tryz.ntmps131
 go_wp2
 go_loopw [5,6] (fun v i wr=>∃ k:Nat,k≤n∧i=.int .i64 k∧RowsOwn F wr w.heap.size v (withoutM (R.take k) p)∧Below w.heap.size w wr) (fun _ i _=>n - (intOf i).toNat)
 case atStart=>exact ⟨0,Nat.zero_le _,rfl,RowsOwn.nil_ _ _ _,Below.refl _ _⟩
 case round =>
  obtain ⟨k,hk,rfl,ho,hb⟩:=hrel
  have HO:=Lib.hid ho
  have HB:=Lib.hid hb
  have hwz:=hb.size
  have k0:(0:Int)≤(k:Int):=by omega
  clear ho hb
  by_cases hlt:k<n
  ·have k1:(k:Int)<(n:Int):=by omega
   obtain ⟨r,hr⟩:∃ r,R[k]?=some r:=⟨_,List.getElem?_eq_getElem (by rw [HN.out];exact hlt)⟩
   obtain ⟨ad,d,rfl,hby,hc0,hc1,hc2,hc3⟩:=(H.out.below HB.out).at_ k r hr
   have HX:=Lib.hid (without_take (p:=p) hr)
   have HBY:=Lib.hid hby
   clear hr hby
   by_cases he:r.path=p
   ·have e1:=str_eq' he
    have HX2:Hid (withoutM (R.take (k+1)) p=withoutM (R.take k) p):=by unfold Hid;rw [HX.out,if_pos he,List.append_nil]
    clear he
    go_wp2
    go_roundw
    case rel=>exact ⟨k+1,by omega,by go_num,by rw [HX2.out];exact HO.out,HB.out⟩
    case measure=>simp [intOf];omega
   ·have e1:=str_ne he
    have HX2:Hid (withoutM (R.take (k+1)) p=withoutM (R.take k) p++[r]):=by unfold Hid;rw [HX.out,if_neg he]
    clear he
    have HN1:=Lib.hid (rows_new F wr r d HBY.out)
    have hsm:(withoutM (R.take k) p).length+[r].length≤2000000:=by have:=without_le (R.take k) p;have h2:=List.length_take_le k R;simp;omega
    have HOW:=Lib.hid (HO.out.alloc (.cells #[.string (str r.path),.int .i64 r.f.mode,d,.int .i64 r.f.time] 128))
    have hz1:w.heap.size≤(wr.alloc (.cells #[.string (str r.path),.int .i64 r.f.mode,d,.int .i64 r.f.time] 128)).heap.size:=by simp;omega
    have HFB:Hid (∀ k,F k→k<(wr.alloc (.cells #[.string (str r.path),.int .i64 r.f.mode,d,.int .i64 r.f.time] 128)).heap.size):=fun k hk=>by have:=HF.out k hk;simp;omega
    go_wp2_with (at_builtin;refine append_rows rfl (.tmp 20) (.tmp 25) rfl _ _ w.heap.size u5 _ rfl HOW.out _ [r] rfl HN1.out hsm hz1 HFB.out ?_;intro v3 w3 ho3 hg3 hb3;have HO3:=Lib.hid ho3;have HB3:=Lib.hid hb3;clear ho3 hg3 hb3)
    go_roundw
    case rel=>exact ⟨k+1,by omega,by go_num,by rw [HX2.out];exact HO3.out,(HB.out.alloc hwz _).trans HB3.out⟩
    case measure=>simp [intOf];omega
  ·have hT:Hid (R.take k=R):=List.take_of_length_le (by rw [HN.out];omega)
   go_wp2
   go_ret
   exact ⟨u5,rfl,by have:=HO.out;rw [hT.out] at this;exact this,HB.out⟩
end Go.Proofs.YtlkolcokjmlmjaaGreat.Tx
