/- Texts put together: VRin. -/
import Derived.Test.YtlkolcokjmlmjaaGreatQv51
import Derived.Test.YtlkolcokjmlmjaaGreatQv52
import Derived.Test.YtlkolcokjmlmjaaGreatQv49
set_option linter.unusedVariables false
set_option linter.unusedSimpArgs false
namespace Go.Proofs.YtlkolcokjmlmjaaGreat.Tx
open Go.ChangeShapes Go.WideShapes Go.RowKit Go.Deep Go.Proofs.YtlkolcokjmlmjaaGreat.Sh
theorem twelve {α:Type}:∀ {cs:List α},cs.length=12→∃ c0 c1 c2 c3 c4 c5 c6 c7 c8 c9 c10 c11,cs=[c0,c1,c2,c3,c4,c5,c6,c7,c8,c9,c10,c11]
 | [c0,c1,c2,c3,c4,c5,c6,c7,c8,c9,c10,c11],_=>⟨c0,c1,c2,c3,c4,c5,c6,c7,c8,c9,c10,c11,rfl⟩
theorem cint:Tryz.prog.cellsOf 3=1:=by kernel_rfl
theorem cstr:Tryz.prog.cellsOf 9=1:=by kernel_rfl
theorem cop:Tryz.prog.cellsOf 35=8:=by kernel_rfl
section
variable {H:Type} {enc:TypeId × Value→H} {w:World} {base n:Nat} {held:Bool} {v:Value} {y:DataW H × List MemPlace}
set_option maxRecDepth 100000 in
set_option maxHeartbeats 1600000 in
theorem op_of {cs : List Value} (h : DataW.trod enc Tryz.prog w base (fun _ => true) held n 35 cs = some y) (hw : ∀ m ∈ y.1.weights Tryz.checked.prog 35, m ≤ 140737488351232) :
  ∃ (o:LOp) (d p:Value),cs=opC ⟨o,d,p⟩∧By (Low w) w d o.data∧InL evK (Low w) w p o.plan∧o.data.length≤140737488351232∧∀ e∈o.plan,e.data.length≤140737488351232:=by
 obtain ⟨hlen,hat⟩:=fields_w Tryz.underlying35 (by kernel_rfl) (by kernel_rfl) h
 obtain ⟨v0,n0,y0,e0,t0,_⟩:=hat 0 _ rfl
 obtain ⟨v1,n1,y1,e1,t1,_⟩:=hat 1 _ rfl
 obtain ⟨v2,n2,y2,e2,t2,_⟩:=hat 2 _ rfl
 obtain ⟨v3,n3,y3,e3,t3,_⟩:=hat 3 _ rfl
 obtain ⟨v4,n4,y4,e4,t4,_⟩:=hat 4 _ rfl
 obtain ⟨v5,n5,y5,e5,t5,_⟩:=hat 5 _ rfl
 obtain ⟨v6,n6,y6,e6,t6,w6⟩:=hat 6 _ rfl
 obtain ⟨v7,n7,y7,e7,t7,w7⟩:=hat 7 _ rfl
 obtain ⟨k0,rfl⟩:=int_in t0
 obtain ⟨k1,rfl⟩:=int_in t1
 obtain ⟨k2,rfl⟩:=int_in t2
 obtain ⟨k3,rfl⟩:=int_in t3
 obtain ⟨s4,rfl⟩:=str_in t4
 obtain ⟨s5,rfl⟩:=str_in t5
 obtain ⟨bs,hby,hbl⟩:=bytes_in t6 (fun m hm=>hw m (w6 m hm))
 obtain ⟨l,hev,hel⟩:=events_in t7 (fun m hm=>hw m (w7 m hm))
 refine ⟨⟨k0,k1,k2,k3,s4,s5,bs,l⟩,v6,v7,?_,hby,hev,hbl,hel⟩
 have hlen':cs.length=8:=hlen
 refine List.ext_getElem? fun j=>?_
 match j with
 | 0=>exact e0
 | 1=>exact e1
 | 2=>exact e2
 | 3=>exact e3
 | 4=>exact e4
 | 5=>exact e5
 | 6=>exact e6
 | 7=>exact e7
 | j+8 =>
  rw [List.getElem?_eq_none (by omega),List.getElem?_eq_none (by unfold opC;simp)]
set_option maxRecDepth 100000 in
set_option maxHeartbeats 1600000 in
theorem refs_in (h:DataW.trod enc Tryz.prog w base (fun _=>true) held n 22 [v]=some y) (hw:∀ m∈y.1.weights Tryz.checked.prog 22,m≤140737488351232):∃ l,OpsR (Low w) w v l∧∀ o∈l,o.f.data.length≤140737488351232∧∀ e∈o.f.plan,e.data.length≤140737488351232:=by
 have hsl:∃ a len cap,v=.slice a len cap:=by
  rcases DataW.trod_slice Tryz.underlying22 h with ⟨hcs,_⟩ | ⟨a,len,cap,_,_,_,_,hcs,_⟩
  ·simp at hcs;exact ⟨_,_,_,hcs⟩
  ·simp at hcs;exact ⟨_,_,_,hcs⟩
 obtain ⟨a,len,cap,rfl⟩:=hsl
 rcases structs_v Tryz.underlying22 Tryz.underlying37 12 (by kernel_rfl) h with ⟨rfl,rfl,rfl⟩ | ⟨ad,rfl,hl,hm,hat⟩
 ·exact ⟨[],⟨none,0,rfl,Nat.le_refl _,by unfold maxLen;omega,fun k o hk=>by simp at hk⟩,fun o ho=>by cases ho⟩
 ·have key : ∀ i : Nat, ∃ t : ROp × Value × Value, i < len → ROpCells (Low w) w (ad.add (i * 12)) t.1 t.2.1 t.2.2 ∧ t.1.f.data.length ≤ 140737488351232 ∧ ∀ e ∈ t.1.f.plan, e.data.length ≤ 140737488351232 := by
   intro i
   by_cases hi:i<len
   ·obtain ⟨cs,hlen,hcell,hfl⟩:=hat i hi
    obtain ⟨c0,c1,c2,c3,c4,c5,c6,c7,c8,c9,c10,c11,rfl⟩:=twelve hlen
    obtain ⟨n0,y0,t0,_⟩:=hfl 0 _ rfl
    obtain ⟨n1,y1,t1,_⟩:=hfl 1 _ rfl
    obtain ⟨n2,y2,t2,_⟩:=hfl 2 _ rfl
    obtain ⟨n3,y3,t3,_⟩:=hfl 3 _ rfl
    obtain ⟨n4,y4,t4,w4⟩:=hfl 4 _ rfl
    have t0':DataW.trod enc Tryz.prog w base (fun _=>true) held n0 3 (([c0,c1,c2,c3,c4,c5,c6,c7,c8,c9,c10,c11].drop 0).take (Tryz.prog.cellsOf 3))=some y0:=t0
    have t1':DataW.trod enc Tryz.prog w base (fun _=>true) held n1 9 (([c0,c1,c2,c3,c4,c5,c6,c7,c8,c9,c10,c11].drop 1).take (Tryz.prog.cellsOf 9))=some y1:=t1
    have t2':DataW.trod enc Tryz.prog w base (fun _=>true) held n2 9 (([c0,c1,c2,c3,c4,c5,c6,c7,c8,c9,c10,c11].drop 2).take (Tryz.prog.cellsOf 9))=some y2:=t2
    have t3':DataW.trod enc Tryz.prog w base (fun _=>true) held n3 9 (([c0,c1,c2,c3,c4,c5,c6,c7,c8,c9,c10,c11].drop 3).take (Tryz.prog.cellsOf 9))=some y3:=t3
    have t4':DataW.trod enc Tryz.prog w base (fun _=>true) held n4 35 (([c0,c1,c2,c3,c4,c5,c6,c7,c8,c9,c10,c11].drop 4).take (Tryz.prog.cellsOf 35))=some y4:=t4
    rw [cint] at t0'
    rw [cstr] at t1' t2' t3'
    rw [cop] at t4'
    simp only [List.drop_zero,List.drop_succ_cons,List.take_succ_cons,List.take_zero] at t0' t1' t2' t3' t4'
    obtain ⟨k0,rfl⟩:=int_in t0'
    obtain ⟨s1,rfl⟩:=str_in t1'
    obtain ⟨s2,rfl⟩:=str_in t2'
    obtain ⟨s3,rfl⟩:=str_in t3'
    obtain ⟨o,d,p,hcs,hby,hev,hbl,hel⟩:=op_of t4' (fun m hm=>hw m (w4 m hm))
    unfold opC at hcs
    simp only [List.cons.injEq,and_true] at hcs
    obtain ⟨rfl,rfl,rfl,rfl,rfl,rfl,rfl,rfl⟩:=hcs
    have hc:∀ (r:Nat) (_:0<r) (u:Value),w.cell? (ad.add (i*12+r))=some u→w.cell? ⟨(ad.add (i*12)).block,(ad.add (i*12)).off+r,none⟩=some u:=fun r h0 u hu=>by rw [← add_field ad (i*12) r h0];exact hu
    exact ⟨(⟨k0,s1,s2,s3,o⟩,c10,c11),fun _=>⟨⟨hby,hev,hcell 0 _ rfl,hc 1 (by decide) _ (hcell 1 _ rfl),hc 2 (by decide) _ (hcell 2 _ rfl),hc 3 (by decide) _ (hcell 3 _ rfl),hc 4 (by decide) _ (hcell 4 _ rfl),hc 5 (by decide) _ (hcell 5 _ rfl),hc 6 (by decide) _ (hcell 6 _ rfl),hc 7 (by decide) _ (hcell 7 _ rfl),hc 8 (by decide) _ (hcell 8 _ rfl),hc 9 (by decide) _ (hcell 9 _ rfl),hc 10 (by decide) _ (hcell 10 _ rfl),hc 11 (by decide) _ (hcell 11 _ rfl)⟩,hbl,hel⟩⟩
   ·exact ⟨(⟨0,[],[],[],⟨0,0,0,0,[],[],[],[]⟩⟩,.int .i64 0,.int .i64 0),fun h=>absurd h hi⟩
  obtain ⟨f,hf⟩:=Classical.axiomOfChoice key
  refine ⟨(List.range len).map fun i=>(f i).1,⟨some ad,cap,by simp,by simpa using hl,hm,fun k o hk=>?_⟩,fun o ho=>?_⟩
  ·have hi:k<len:=by have:=(List.getElem?_eq_some_iff.1 hk).1;simpa using this
   simp [hi] at hk
   subst hk
   have hc:=(hf k hi).1
   have hlt:ad.block<w.heap.size:=by
    have:=World.block_lt_of_cell? w _ hc.kind
    rw [addr_block] at this
    exact this
   exact ⟨ad,_,_,rfl,hlt,hlt,hc⟩
  ·simp only [List.mem_map,List.mem_range] at ho
   obtain ⟨i,hi,rfl⟩:=ho
   exact (hf i hi).2
end
end Go.Proofs.YtlkolcokjmlmjaaGreat.Tx
