/- Texts put together: VSw1. -/
import Derived.Test.YtlkolcokjmlmjaaGreatQv50
set_option linter.unusedVariables false
set_option linter.unusedSimpArgs false
namespace Go.Proofs.YtlkolcokjmlmjaaGreat.Sh
open Go.ChangeShapes Go.WideShapes Go.Deep
theorem fields_v {H:Type} {enc:TypeId × Value→H} {P:Program} {w:World} {base:Nat} {spare:Nat→Bool} {held:Bool} {t:TypeId} {fs:Array Field} {fuel:Nat} {cs:List Value} {x:DataW H × List MemPlace}
  (he:P.underlying t=some (.struct fs)) (h:DataW.trod enc P w base spare held fuel t cs=some x) :
  cs.length=P.cellsOf t∧∀ (j:Nat) (f:Field),fs[j]?=some f→∃ (n:Nat) (y:DataW H × List MemPlace),DataW.trod enc P w base spare held n f.type ((cs.drop f.offset).take (P.cellsOf f.type))=some y∧∀ m∈y.1.weights P f.type,m∈x.1.weights P t:=by
 obtain ⟨ys,n,_,hx,hcl,hyl,hf⟩:=DataW.trod_struct he h
 refine ⟨hcl,fun j f hj=>?_⟩
 have hjl:j<fs.size:=(Array.getElem?_eq_some_iff.1 hj).1
 have hjy:j<ys.length:=by omega
 have hg:=hf j f hj
 rw [List.getElem?_eq_getElem hjy] at hg
 refine ⟨n,_,hg,fun m hm=>?_⟩
 rw [hx]
 have h1:(fs.toList.map (·.type))[j]?=some f.type:=by rw [List.getElem?_map,Array.getElem?_toList,hj];rfl
 have h2:(ys.map (·.1))[j]?=some ys[j].1:=by rw [List.getElem?_map,List.getElem?_eq_getElem hjy];rfl
 have h3:=DataW.weights_mem_each (P:=P) h1 h2 m hm
 simp only [DataW.weights,he]
 exact h3
theorem structs_v {H:Type} {enc:TypeId × Value→H} {P:Program} {w:World} {base:Nat} {spare:Nat→Bool} {held:Bool} {t e:TypeId} {fs:Array Field} {fuel:Nat} {a:Option Addr} {len cap:Nat} {x:DataW H × List MemPlace}
  (ht:P.underlying t=some (.slice e)) (he:P.underlying e=some (.struct fs)) (N:Nat) (hC:P.cellsOf e=N) (h:DataW.trod enc P w base spare held fuel t [.slice a len cap]=some x) :
  (a=none∧len=0∧cap=0)∨∃ ad,a=some ad∧len≤cap∧cap≤maxLen∧∀ i,i<len→∃ cs:List Value,cs.length=N∧(∀ (r:Nat) (u:Value),cs[r]?=some u→w.cell? (ad.add (i*N+r))=some u)∧∀ (j:Nat) (f:Field),fs[j]?=some f →
   ∃ (n:Nat) (y:DataW H × List MemPlace),DataW.trod enc P w base spare held n f.type ((cs.drop f.offset).take (P.cellsOf f.type))=some y∧∀ m∈y.1.weights P f.type,m∈x.1.weights P t:=by
 rcases open_slice ht h with ⟨h0,_⟩ | ⟨ad,l,c,m,k,D,Pl,h0,_,hl,hm,hmm,hx,hi⟩
 ·left
  simp at h0
  exact h0
 ·right
  simp at h0
  obtain ⟨rfl,rfl,rfl⟩:=h0
  refine ⟨ad,rfl,hl,hm,fun i hil=>?_⟩
  obtain ⟨cs,hc,ht'⟩:=hi i (by rw [hmm];split <;> omega)
  obtain ⟨_,hcl,hat⟩:=World.cells?_some hc
  obtain ⟨hlen,hfl⟩:=fields_v he ht'
  refine ⟨cs,hlen.trans hC,fun r u hu=>?_,fun j f hj=>?_⟩
  ·have hr:=(List.getElem?_eq_some_iff.1 hu).1
   have hcell:=hat r (by omega)
   rw [hC,Go.Deep.add_add,hu] at hcell
   exact hcell
  ·obtain ⟨n,y,hy,hw⟩:=hfl j f hj
   refine ⟨n,y,hy,fun m' hm'=>?_⟩
   rw [hx]
   simp only [DataW.weights,ht]
   refine List.mem_cons_of_mem _ (List.mem_append.2 (.inl ?_))
   exact weights_all_mem (List.mem_map.2 ⟨i,List.mem_range.2 hil,rfl⟩) (hw m' hm')
end Go.Proofs.YtlkolcokjmlmjaaGreat.Sh
