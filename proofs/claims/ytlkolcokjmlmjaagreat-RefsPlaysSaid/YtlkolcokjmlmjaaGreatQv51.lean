/- Texts put together: VOpn. -/
import Derived.Test.YtlkolcokjmlmjaaGreatQv50
import Derived.Test.YtlkolcokjmlmjaaGreatQv42
import Derived.OpenShut
import Derived.ShutString
import Derived.ChangeOld
import Derived.WideShapes
namespace Go.Proofs.YtlkolcokjmlmjaaGreat.Tx
open Go.ChangeShapes Go.WideShapes Go.RowKit Go.Deep Go.Proofs.YtlkolcokjmlmjaaGreat.Sh
def Low (w:World) (k:Nat):Prop:=k<w.heap.size
theorem bi_of {n:Int} (h:(Lit.int .u8 n).wf=true):bi (UInt8.ofNat n.toNat)=n:=by
 have hx:0≤n∧n≤255:=by simpa [Lit.wf,IntKind.min,IntKind.max,IntKind.signed,IntKind.bits] using h
 unfold bi
 rw [UInt8.toNat_ofNat']
 omega
theorem strb_of (s:ByteArray):str s.data.toList=s:=by
 unfold str
 cases s
 simp
section
variable {H:Type} {enc:TypeId × Value→H} {w:World} {base n:Nat} {held:Bool} {v:Value} {y:DataW H × List MemPlace}
theorem int_in (h:DataW.trod enc Tryz.prog w base (fun _=>true) held n 3 [v]=some y):∃ k,v=.int .i64 k:=by
 obtain ⟨k,hv,_,_⟩:=DataW.trod_int Tryz.underlying3 h
 simp at hv
 exact ⟨k,hv⟩
theorem str_in (h:DataW.trod enc Tryz.prog w base (fun _=>true) held n 9 [v]=some y):∃ s,v=.string (str s):=by
 obtain ⟨s,hv,_,_⟩:=DataW.trod_string Tryz.underlying9 h
 simp at hv
 exact ⟨s.data.toList,by rw [strb_of,hv]⟩
theorem bytes5:Tryz.checked.prog.bytesOf 5=1:=by kernel_rfl
set_option maxRecDepth 100000 in
theorem bytes_in (h:DataW.trod enc Tryz.prog w base (fun _=>true) held n 32 [v]=some y) (hw:∀ m∈y.1.weights Tryz.checked.prog 32,m≤140737488351232):∃ bs,By (Low w) w v bs∧bs.length≤140737488351232:=by
 rcases open_ints Tryz.underlying32 Tryz.underlying5 (by kernel_rfl) h with ⟨hcs,_⟩ | ⟨x,l,c,zs,hcs,_,hl,hm,hz,hy,hcell,hwz⟩
 ·simp at hcs
  subst hcs
  exact ⟨[],Rd.nil_ _ _ _,by simp⟩
 ·simp at hcs
  subst hcs
  simp only [if_true] at hz
  have hlen:((zs.take l).map (fun n=>UInt8.ofNat n.toNat)).length=l:=by simp;omega
  have hlt:0<l→x.block<w.heap.size:=fun h0=>by
   have:=World.block_lt_of_cell? w _ (hcell 0 (by omega))
   rw [block_of_add] at this
   exact this
  refine ⟨(zs.take l).map (fun n=>UInt8.ofNat n.toNat),?_,?_⟩
  ·refine ⟨some x,c,by rw [hlen],by rw [hlen];exact hl,hm,by simp,(fun e=>by cases e),fun h0=>⟨x,rfl,hlt (by rw [hlen] at h0;exact h0),hlt (by rw [hlen] at h0;exact h0),fun j u hu=>?_⟩⟩
   have hjl:j<l:=by have:=(List.getElem?_eq_some_iff.1 hu).1;simp at this;omega
   have hjz:j<zs.length:=by omega
   rw [hcell j hjz,List.getD_eq_getElem?_getD,List.getElem?_eq_getElem hjz,← hu,List.getElem?_map,List.getElem?_map,List.getElem?_take,if_pos hjl,List.getElem?_eq_getElem hjz]
   show some (Value.int .u8 zs[j])=some (Value.int .u8 (bi (UInt8.ofNat zs[j].toNat)))
   rw [bi_of (hwz _ (List.getElem_mem hjz))]
  ·rw [hlen]
   have h1:=hw ((lits (H:=H) .u8 (zs.take l)).length+(lits (H:=H) .u8 (zs.drop l)).length) (by
    rw [hy]
    simp [DataW.weights,show Tryz.checked.prog.underlying 32=some (.slice 5) from Tryz.underlying32,bytes5])
   simp only [lits,List.length_map,List.length_take,List.length_drop] at h1
   omega
def EvAt (w:World) (a:Addr) (t:EvM × Value):Prop:=(∀ (r:Nat) (u:Value),(evK.cells t.1 t.2)[r]? = some u→w.cell? (a.add r)=some u)∧By (Low w) w t.2 t.1.data∧t.1.data.length≤140737488351232
set_option maxRecDepth 100000 in
set_option maxHeartbeats 1600000 in
theorem events_in (h:DataW.trod enc Tryz.prog w base (fun _=>true) held n 33 [v]=some y) (hw:∀ m∈y.1.weights Tryz.checked.prog 33,m≤140737488351232):∃ l,InL evK (Low w) w v l∧∀ e∈l,e.data.length≤140737488351232:=by
 have hsl:∃ a len cap,v=.slice a len cap:=by
  rcases DataW.trod_slice Tryz.underlying33 h with ⟨hcs,_⟩ | ⟨a,len,cap,_,_,_,_,hcs,_⟩
  ·simp at hcs;exact ⟨_,_,_,hcs⟩
  ·simp at hcs;exact ⟨_,_,_,hcs⟩
 obtain ⟨a,len,cap,rfl⟩:=hsl
 rcases structs_w Tryz.underlying33 Tryz.underlying109 (by kernel_rfl) (by kernel_rfl) h with ⟨rfl,rfl,rfl⟩ | ⟨ad,rfl,hl,hm,hat⟩
 ·exact ⟨[],⟨[],Rd.nil_ _ _ _,rfl,fun i d bs hd=>by simp at hd⟩,fun e he=>by cases he⟩
 ·have key : ∀ i : Nat, ∃ t : EvM × Value, i < len → EvAt w (ad.add (i * 7)) t := by
   intro i
   by_cases hi:i<len
   ·obtain ⟨v0,n0,y0,e0,t0,_⟩:=hat i hi 0 _ rfl
    obtain ⟨v1,n1,y1,e1,t1,_⟩:=hat i hi 1 _ rfl
    obtain ⟨v2,n2,y2,e2,t2,_⟩:=hat i hi 2 _ rfl
    obtain ⟨v3,n3,y3,e3,t3,_⟩:=hat i hi 3 _ rfl
    obtain ⟨v4,n4,y4,e4,t4,_⟩:=hat i hi 4 _ rfl
    obtain ⟨v5,n5,y5,e5,t5,_⟩:=hat i hi 5 _ rfl
    obtain ⟨v6,n6,y6,e6,t6,w6⟩:=hat i hi 6 _ rfl
    obtain ⟨k0,rfl⟩:=int_in t0
    obtain ⟨k1,rfl⟩:=int_in t1
    obtain ⟨k2,rfl⟩:=int_in t2
    obtain ⟨k3,rfl⟩:=int_in t3
    obtain ⟨k4,rfl⟩:=int_in t4
    obtain ⟨s5,rfl⟩:=str_in t5
    obtain ⟨bs,hby,hbl⟩:=bytes_in t6 (fun m hm=>hw m (w6 m hm))
    refine ⟨(⟨k0,k1,k2,k3,k4,s5,bs⟩,v6),fun _=>⟨fun r u hu=>?_,hby,hbl⟩⟩
    rw [Go.Deep.add_add]
    match r,hu with
    | 0,hu=>injection hu with hu;subst hu;exact e0
    | 1,hu=>injection hu with hu;subst hu;exact e1
    | 2,hu=>injection hu with hu;subst hu;exact e2
    | 3,hu=>injection hu with hu;subst hu;exact e3
    | 4,hu=>injection hu with hu;subst hu;exact e4
    | 5,hu=>injection hu with hu;subst hu;exact e5
    | 6,hu=>injection hu with hu;subst hu;exact e6
    | r+7,hu=>simp [evK] at hu
   ·exact ⟨(⟨0,0,0,0,0,[],[]⟩,.int .i64 0),fun h=>absurd h hi⟩
  obtain ⟨f,hf⟩:=Classical.axiomOfChoice key
  obtain ⟨L,hL⟩:∃ L:List EvM,L=(List.range len).map fun i=>(f i).1:=⟨_,rfl⟩
  obtain ⟨D,hD⟩:∃ D:List Value,D=(List.range len).map fun i=>(f i).2:=⟨_,rfl⟩
  have hlen:L.length=len:=by rw [hL];simp
  have hdl:D.length=len:=by rw [hD];simp
  have hLi:∀ i,i<len→L[i]? = some (f i).1:=fun i hi=>by rw [hL];simp [hi]
  have hDi:∀ i,i<len→D[i]? = some (f i).2:=fun i hi=>by rw [hD];simp [hi]
  refine ⟨L,⟨D,?_,?_⟩,fun e he=>?_⟩
  ·have hcl : (ShC evK L D).length = len * 7 := by
    have:=ShC_length (K:=evK) (l:=L) (ds:=D) (by rw [hdl];exact hlen.symm)
    rw [this]
    show L.length*7=_
    rw [hlen]
   refine ⟨some ad,cap,by show Value.slice (some ad) len cap=.slice (some ad) L.length cap;rw [hlen],by show L.length≤cap;rw [hlen];exact hl,hm,by show (ShC evK L D).length=L.length*7;rw [hlen];exact hcl,(fun e=>by cases e),fun h0=>?_⟩
   replace h0:0<L.length:=h0
   rw [hlen] at h0
   have hlt:ad.block<w.heap.size:=by
    have:=World.block_lt_of_cell? w _ ((hf 0 h0).1 0 _ rfl)
    rw [addr_block,addr_block] at this
    exact this
   refine ⟨ad,rfl,hlt,hlt,fun j u hu=>?_⟩
   have hjl:=(List.getElem?_eq_some_iff.1 hu).1
   rw [hcl] at hjl
   obtain ⟨q,r,rfl,hr⟩:∃ q r,j=q*7+r∧r<7:=⟨j / 7,j % 7,by omega,by omega⟩
   have hq:q<len:=by omega
   have hx:=hLi q hq
   have hy:=hDi q hq
   have hrc:r<(evK.cells (f q).1 (f q).2).length:=Nat.lt_of_lt_of_eq hr (evK.len (f q).1 (f q).2).symm
   have:=ShC_at (K:=evK) hx hy r _ (List.getElem?_eq_getElem hrc)
   rw [show q*evK.m+r=q*7+r from rfl,hu] at this
   injection this with this
   rw [← Go.Deep.add_add,this]
   exact (hf q hq).1 r _ (List.getElem?_eq_getElem hrc)
  ·refine ⟨?_,fun i d bs hd hb=>?_⟩
   ·have h1:(L.map fun e=>e.data).length=len:=by rw [List.length_map,hlen]
    exact hdl.trans h1.symm
   ·have hi:i<len:=by have:=(List.getElem?_eq_some_iff.1 hd).1;rw [hdl] at this;exact this
    rw [hDi i hi] at hd
    injection hd with hd
    subst hd
    have hb':(L.map fun e:EvM=>e.data)[i]? = some bs:=hb
    rw [List.getElem?_map,hLi i hi] at hb'
    injection hb' with hb'
    subst hb'
    exact (hf i hi).2.1
  ·obtain ⟨k,hk,hke⟩:=List.getElem_of_mem he
   have hkl:k<len:=by have h1:k<L.length:=hk;omega
   have h2:L[k]? = some e:=(List.getElem?_eq_getElem hk).trans (congrArg some hke)
   rw [hLi k hkl] at h2
   injection h2 with h2
   subst h2
   exact (hf k hkl).2.2
end
end Go.Proofs.YtlkolcokjmlmjaaGreat.Tx
