/- Texts put together: VGd6, VGe2, VGe3, VHm1, VHl0, VHd0, VGx0. -/
import Derived.Test.YtlkolcokjmlmjaaGreatQv38
import Derived.Test.YtlkolcokjmlmjaaGreatQv41
import Derived.Test.YtlkolcokjmlmjaaGreatQv28
import Derived.IntWalk
import Derived.Test.YtlkolcokjmlmjaaGreatQv29
import Derived.Test.YtlkolcokjmlmjaaGreatQv30
import Derived.Test.YtlkolcokjmlmjaaGreatQv11
set_option linter.unusedVariables false
set_option linter.unusedSimpArgs false
namespace Go.Proofs.YtlkolcokjmlmjaaGreat.Tx
open Go.RowKit Go.Maps Go.Proofs.YtlkolcokjmlmjaaGreat.Sh
end Go.Proofs.YtlkolcokjmlmjaaGreat.Tx
namespace Go.Proofs.YtlkolcokjmlmjaaGreat.Tx
open Go.RowKit Go.Maps Go.Proofs.YtlkolcokjmlmjaaGreat.Sh
set_option maxRecDepth 100000 in
set_option maxHeartbeats 1600000 in
theorem fewev_any (F:Nat→Prop) (v:Value) (l:List EvM) (w:World) (h:EvsF F w v l):Calls Tryz.prog 85 #[v] w fun e w'=>∃ t,e=.returned (.bool t)∧(t=true→l.length≤60∧∀ e∈l,e.path.length≤400)∧Below w.heap.size w w':=by
 obtain ⟨A,c,rfl,hlc,hcm⟩:=evs_slice h
 obtain ⟨n,hn⟩:∃ n,l.length=n:=⟨_,rfl⟩
 have HL:=Lib.hid h
 have HN:=Lib.hid hn
 rw [hn] at hlc HL ⊢
 unfold maxLen at hcm
 clear h hn
 go_enter Tryz.func85,Tryz.ntmps85
 go_wp2
 go_loopw [3,4] (fun s i wr=>∃ (k:Nat) (z:Int),k≤n∧k≤60∧i=.int .i64 k∧s=.int .i64 z∧0≤z∧z≤160000∧(∀ e∈l.take k,e.path.length≤400)∧Below w.heap.size w wr) (fun _ i _=>n - (intOf i).toNat)
 case atStart=>exact ⟨0,0,Nat.zero_le _,Nat.zero_le _,rfl,rfl,by omega,by omega,fun e he=>by simp at he,Below.refl _ _⟩
 case round =>
  obtain ⟨k,z,hk,hk6,rfl,rfl,hz0,hz1,hpk,hb⟩:=hrel
  have HB:=Lib.hid hb
  have HPK:=Lib.hid hpk
  clear hb hpk
  have p0:(0:Int)≤(k:Int):=by omega
  by_cases hlt:k<n
  ·by_cases h60:k<60
   ·have hkl:k<l.length:=by rw [HN.out];exact hlt
    obtain ⟨ad,dA,dc,rfl,_,_,_,_,_,_,x5,x6⟩:=ev_cells (TmpL.below HL.out HB.out) k l[k] (List.getElem?_eq_getElem hkl)
    have HX:=Lib.hid (show l.take (k+1)=l.take k++[l[k]] from List.take_succ_eq_append_getElem hkl)
    obtain ⟨pl,hpl⟩:∃ pl,l[k].path.length=pl:=⟨_,rfl⟩
    have hsp:(str l[k].path).toList.length=pl:=by rw [str_toList];exact hpl
    have HPL:=Lib.hid hpl
    obtain ⟨dl,hdl⟩:∃ dl,l[k].data.length=dl:=⟨_,rfl⟩
    rw [hdl] at x6
    generalize l[k]=e at *
    clear hkl hdl hpl
    have p1:(k:Int)<(n:Int):=by omega
    have p2:(k:Int)<60:=by omega
    have hm0:(0:Int)≤min (dl:Int) 40000∧min (dl:Int) 40000≤40000:=by omega
    have hm1:(0:Int)≤min (pl:Int) 1000∧min (pl:Int) 1000≤1000:=by omega
    have w1:IntKind.i64.wrap (z+min (dl:Int) 40000)=z+min (dl:Int) 40000:=IntWalk.i64_in _ (by omega)
    have w2:IntKind.i64.wrap (z+min (dl:Int) 40000+min (pl:Int) 1000)=z+min (dl:Int) 40000+min (pl:Int) 1000:=IntWalk.i64_in _ (by omega)
    have hsz:(str e.path).size=pl:=by rw [str_size];exact HPL.out
    rw [show str e.path=⟨(str e.path).data⟩ from rfl] at x5 hsz hsp
    generalize (⟨(str e.path).data⟩:ByteArray)=sp at *
    by_cases hl4:(400:Int)<(pl:Int)
    ·go_wp2_with fail
     go_quiet (fail)
     go_wp2_with fail
     go_ret
     exact ⟨_,rfl,fun h=>by simp at h,below_drewN HB.out _⟩
    ·go_wp2_with fail
     go_quiet (fail)
     go_wp2_with fail
     go_roundw
     case rel=>exact ⟨k+1,min (z+min (dl:Int) 40000+min (pl:Int) 1000) 160000,by omega,by omega,by go_num,by go_num,by omega,by omega,fun x hx=>by
      rw [HX.out] at hx
      rcases List.mem_append.1 hx with h9 | h9
      ·exact HPK.out x h9
      ·rw [List.mem_singleton.1 h9,HPL.out];omega,below_drewN HB.out _⟩
     case measure=>simp [intOf];omega
   ·obtain rfl:k=60:=by omega
    have e60:¬ (n≤60):=by omega
    have e61:decide ((n:Int)≤60)=false:=by simp;omega
    go_wp2_with fail
    go_ret
    exact ⟨_,rfl,fun h=>by simp at h,HB.out⟩
  ·obtain rfl:k=n:=by omega
   have HF:Hid (k≤60∧∀ e∈l,e.path.length≤400):=⟨hk6,fun e he=>HPK.out e (by rw [List.take_of_length_le (by rw [HN.out];exact Nat.le_refl _)];exact he)⟩
   go_wp2_with fail
   all_goals
    go_ret
    exact ⟨_,rfl,fun _=>HF.out,HB.out⟩
end Go.Proofs.YtlkolcokjmlmjaaGreat.Tx
namespace Go.Proofs.YtlkolcokjmlmjaaGreat.Tx
open Go.RowKit Go.Maps Go.Proofs.YtlkolcokjmlmjaaGreat.Sh
structure OpCells (G:Nat→Prop) (w:World) (a:Addr) (o:LOp) (dv pv:Value):Prop where
 data:By G w dv o.data
 plan:InL evK G w pv o.plan
 kind:w.cell? a=some (.int .i64 o.kind)
 mode:w.cell? ⟨a.block,a.off+1,none⟩=some (.int .i64 o.mode)
 keep:w.cell? ⟨a.block,a.off+2,none⟩=some (.int .i64 o.keep)
 torn:w.cell? ⟨a.block,a.off+3,none⟩=some (.int .i64 o.torn)
 path:w.cell? ⟨a.block,a.off+4,none⟩=some (.string (str o.path))
 dest:w.cell? ⟨a.block,a.off+5,none⟩=some (.string (str o.dest))
 dcell:w.cell? ⟨a.block,a.off+6,none⟩=some dv
 pcell:w.cell? ⟨a.block,a.off+7,none⟩=some pv
def OpsF (G:Nat→Prop) (w:World) (v:Value) (l:List LOp):Prop:=∃ A c,v=.slice A l.length c∧l.length≤c∧c≤maxLen∧∀ k o,l[k]? = some o→∃ ad dv pv,A=some ad∧G ad.block∧ad.block<w.heap.size∧OpCells G w (ad.add (k*8)) o dv pv
theorem OpCells.only {G M:Nat→Prop} {w w':World} {a:Addr} {o:LOp} {dv pv:Value} (h:OpCells G w a o dv pv) (ho:Only M w w') (hG:∀ k,G k→¬ M k) (ha:G a.block) (hl:a.block<w.heap.size):OpCells G w' a o dv pv:=by
 have hn:=hG _ ha
 exact ⟨h.data.only ho hG,h.plan.only ho hG,(ho.cell hl hn).trans h.kind,(ho.cell (p:=⟨a.block,a.off+1,none⟩) hl hn).trans h.mode,(ho.cell (p:=⟨a.block,a.off+2,none⟩) hl hn).trans h.keep,(ho.cell (p:=⟨a.block,a.off+3,none⟩) hl hn).trans h.torn,(ho.cell (p:=⟨a.block,a.off+4,none⟩) hl hn).trans h.path,(ho.cell (p:=⟨a.block,a.off+5,none⟩) hl hn).trans h.dest,(ho.cell (p:=⟨a.block,a.off+6,none⟩) hl hn).trans h.dcell,(ho.cell (p:=⟨a.block,a.off+7,none⟩) hl hn).trans h.pcell⟩
theorem addr_block (a:Addr) (n:Nat):(a.add n).block=a.block:=by unfold Addr.add;split <;> rfl
structure OpFew (o:LOp):Prop where
 path:o.path.length≤400
 dest:o.dest.length≤400
 plan:o.plan.length≤60
 paths:∀ e∈o.plan,e.path.length≤400
set_option maxRecDepth 100000 in
set_option maxHeartbeats 3200000 in
theorem few_any (G:Nat→Prop) (v:Value) (l:List LOp) (w:World) (h:OpsF G w v l):Calls Tryz.prog 22 #[v] w fun e w'=>∃ t,e=.returned (.bool t)∧(t=true→l.length≤100∧∀ o∈l,OpFew o)∧Below w.heap.size w w':=by
 have HL:=Lib.hid h
 obtain ⟨A,c,rfl,hlc,hcm,_⟩:=h
 obtain ⟨n,hn⟩:∃ n,l.length=n:=⟨_,rfl⟩
 have HN:=Lib.hid hn
 rw [hn] at hlc HL ⊢
 unfold maxLen at hcm
 clear hn
 go_enter Tryz.func22,Tryz.ntmps22
 go_wp2
 go_loopw [3,4] (fun s i wr=>∃ (k:Nat) (z:Int),k≤n∧k≤100∧i=.int .i64 k∧s=.int .i64 z∧0≤z∧z≤160000∧(∀ o∈l.take k,OpFew o)∧Below w.heap.size w wr) (fun _ i _=>n - (intOf i).toNat)
 case atStart=>exact ⟨0,0,Nat.zero_le _,Nat.zero_le _,rfl,rfl,by omega,by omega,fun e he=>by simp at he,Below.refl _ _⟩
 case round =>
  obtain ⟨k,z,hk,hk6,rfl,rfl,hz0,hz1,hpk,hb⟩:=hrel
  have HB:=Lib.hid hb
  have HPK:=Lib.hid hpk
  clear hb hpk
  have p0:(0:Int)≤(k:Int):=by omega
  by_cases hlt:k<n
  ·by_cases h60:k<100
   ·have hkl:k<l.length:=by rw [HN.out];exact hlt
    obtain ⟨A',c',hv,_,_,hat⟩:=HL.out
    injection hv with e1 e2 e3
    subst e1
    clear e2 e3
    obtain ⟨ad,dv,pv,rfl,hGa,hal,hoc⟩:=hat k l[k] (List.getElem?_eq_getElem hkl)
    clear hat
    have HOC:=Lib.hid hoc
    have HGA:=Lib.hid hGa
    have HAL:=Lib.hid hal
    have HX:=Lib.hid (show l.take (k+1)=l.take k++[l[k]] from List.take_succ_eq_append_getElem hkl)
    generalize l[k]=o at *
    clear hkl hoc hGa hal
    have HSC:Hid (∀ W,Below w.heap.size w W→OpCells G W (ad.add (k*8)) o dv pv):=fun W hW=>HOC.out.only (Only.of_below (M:=fun _=>False) hW) (fun _ _=>id) (by rw [addr_block];exact HGA.out) (by rw [addr_block];exact HAL.out)
    have hc0:=HSC.out wr HB.out
    have x4:=hc0.path
    have x5:=hc0.dest
    have x6:=hc0.dcell
    have x7:=hc0.pcell
    clear hc0
    have p1:(k:Int)<(n:Int):=by omega
    have p2:(k:Int)<100:=by omega
    have hs4:(str o.path).size=o.path.length:=str_size _
    have hs5:(str o.dest).size=o.dest.length:=str_size _
    go_wp2_with fail
    refine (fewev_any G pv o.plan wr (HSC.out wr HB.out).plan.tmp).mono ?_
    rintro e w1 ⟨t,rfl,ht,hb1⟩
    have HB1:=Lib.hid (HB.out.trans (hb1.mono HB.out.size))
    have HT:=Lib.hid ht
    clear hb1 ht x4 x5 x6 x7
    have hc1:=HSC.out w1 HB1.out
    have y4:=hc1.path
    have y5:=hc1.dest
    obtain ⟨dA,dc,hdv,_,_⟩:=hc1.data.slice
    subst hdv
    have y6:=hc1.dcell
    clear hc1
    obtain ⟨dl,hdl⟩:∃ dl,o.data.length=dl:=⟨_,rfl⟩
    rw [hdl] at y6
    clear hdl
    have hm0:(0:Int)≤min (dl:Int) 40000∧min (dl:Int) 40000≤40000:=by omega
    have w1':IntKind.i64.wrap (z+min (dl:Int) 40000)=z+min (dl:Int) 40000:=IntWalk.i64_in _ (by omega)
    cases t
    ·go_wp2_with fail
     go_ret
     exact ⟨_,rfl,fun h=>by simp at h,HB1.out⟩
    ·by_cases hl4:(400:Int)<(o.path.length:Int)
     ·go_wp2_with fail
      go_ret
      exact ⟨_,rfl,fun h=>by simp at h,HB1.out⟩
     ·by_cases hl5:(400:Int)<(o.dest.length:Int)
      ·go_wp2_with fail
       go_ret
       exact ⟨_,rfl,fun h=>by simp at h,HB1.out⟩
      ·have HOF:Hid (OpFew o):=⟨by omega,by omega,(HT.out rfl).1,(HT.out rfl).2⟩
       go_wp2_with fail
       go_roundw
       case rel=>exact ⟨k+1,min (z+min (dl:Int) 40000) 160000,by omega,by omega,by go_num,by go_num,by omega,by omega,fun x hx=>by
        rw [HX.out] at hx
        rcases List.mem_append.1 hx with h9 | h9
        ·exact HPK.out x h9
        ·rw [List.mem_singleton.1 h9];exact HOF.out,HB1.out⟩
       case measure=>simp [intOf];omega
   ·obtain rfl:k=100:=by omega
    have e61:decide ((n:Int)≤100)=false:=by simp;omega
    go_wp2_with fail
    go_ret
    exact ⟨_,rfl,fun h=>by simp at h,HB.out⟩
  ·obtain rfl:k=n:=by omega
   have HF:Hid (k≤100∧∀ o∈l,OpFew o):=⟨hk6,fun e he=>HPK.out e (by rw [List.take_of_length_le (by rw [HN.out];exact Nat.le_refl _)];exact he)⟩
   go_wp2_with fail
   all_goals
    go_ret
    exact ⟨_,rfl,fun _=>HF.out,HB.out⟩
end Go.Proofs.YtlkolcokjmlmjaaGreat.Tx
set_option linter.unusedVariables false
set_option linter.unusedSimpArgs false
namespace Go.Proofs.YtlkolcokjmlmjaaGreat.Tx
def UsrC (c:CSt):Prop:=∀ e∈c.users,e.data.length≤20000
theorem wr_users (c:CSt) (p:List UInt8) (mode:Int) (data:List UInt8) (room:Int) (create:Bool):(wrC c p mode data room create).users=c.users:=by
 unfold wrC
 split <;> rfl
theorem rm_users (c:CSt) (p:List UInt8):(rmC c p).users=c.users:=by
 unfold rmC
 split <;> rfl
theorem mv_users (c:CSt) (fr tt:List UInt8) (create:Bool):(mvC c fr tt create).users=c.users:=by
 unfold mvC
 split <;> rfl
theorem cr_users (c:CSt) (keep torn:Int):(crC c keep torn).users=c.users:=by
 unfold crC
 split <;> rfl
theorem UsrC.of_eq {c c':CSt} (h:UsrC c) (e:c'.users=c.users):UsrC c':=by unfold UsrC;rw [e];exact h
theorem UsrC.note {c:CSt} (h:UsrC c) {e:EvM} (he:e.data.length≤20000):UsrC (noteC c e):=by
 intro x hx
 have hx':x∈c.users++[{ e with at_:=c.calls }]:=hx
 rcases List.mem_append.1 hx' with h1 | h1
 ·exact h x h1
 ·rw [List.mem_singleton.1 h1];exact he
theorem UsrC.uw {c:CSt} (h:UsrC c) (p:List UInt8) (mode:Int) (data:List UInt8):UsrC (uwC c p mode data):=by
 unfold uwC
 split
 ·rename_i he
  have hd:data.length≤20000:=by
   unfold uwE at he
   split at he
   ·cases he
   ·exact (wrE_ok he).2.2.1
  exact UsrC.note (h.of_eq (wr_users _ _ _ _ _ _)) hd
 ·exact h
theorem UsrC.ur {c:CSt} (h:UsrC c) (p:List UInt8):UsrC (urC c p):=by
 unfold urC
 split
 ·exact UsrC.note (h.of_eq (rm_users _ _)) (Nat.zero_le _)
 ·exact h
theorem UsrC.ev {s:BgC} (h:UsrC s.c) (e:EvM):UsrC (evC s e).c:=by
 have h1:UsrC { s.c with plan:=s.c.plan.tail }:=h
 unfold evC
 split
 ·exact h1.of_eq (cr_users _ _ _)
 ·split
  ·exact h1
  ·split
   ·exact h1
   ·split
    ·exact h1.uw _ _ _
    ·split
     ·exact h1.ur _
     ·exact h1
theorem UsrC.bgk {c:CSt} (h:UsrC c):∀ k,UsrC (bgK c k).c
 | 0=>h
 | k+1=>by
  cases he:c.plan[k]? with
  | none=>rw [bgK_more he];exact UsrC.bgk h k
  | some e=>rw [bgK_next he];exact (UsrC.bgk h k).ev e
theorem UsrC.bg {c:CSt} (h:UsrC c):UsrC (bgC c).c:=h.bgk _
theorem UsrC.does {c:CSt} (h:UsrC c) (o:LOp):UsrC (doesC c o):=by
 have hb:=h.bg
 have hcrt:∀ create,UsrC (crtC c o.path o.mode o.data create):=fun create=>by
  unfold crtC
  split
  ·exact hb.of_eq (wr_users _ _ _ _ _ _)
  ·exact hb
 have hmov:∀ create,UsrC (movC c o.path o.dest create):=fun create=>by
  unfold movC
  split
  ·exact hb.of_eq (mv_users _ _ _ _)
  ·exact hb
 refine doesC_at (P:=UsrC) c o (fun _=>hcrt _) (fun _=>hcrt _) (fun _=>hmov _) (fun _=>hmov _) (fun _=>?_) (fun _=>?_) (fun _=>hb) (fun _=>hb) (fun _=>h.uw _ _ _) (fun _=>h.ur _) (fun _=>h.of_eq (cr_users _ _ _)) (fun _=>h) (fun _=>h) (fun _=>h)
 ·unfold remC
  split
  ·exact hb.of_eq (rm_users _ _)
  ·exact hb
 ·unfold synC
  split
  ·exact hb
  ·exact hb
def KeptU (c:CSt):Prop:=KeptC c∧UsrC c
end Go.Proofs.YtlkolcokjmlmjaaGreat.Tx
set_option linter.unusedVariables false
set_option linter.unusedSimpArgs false
namespace Go.Proofs.YtlkolcokjmlmjaaGreat.Tx
open Go.RowKit Go.Maps Go.Proofs.YtlkolcokjmlmjaaGreat.Sh
structure PlayInv (G:Nat→Prop) (w:World) (v:Value) (l:List LOp) (room:Int) (b d k:Nat) (wr:World) (F M:Nat→Prop) (cs:CSt) (s:FSM):Prop where
 two:TwoAt F wr b cs d s M
 sub:∀ q,G q→F q
 goC:GoC cs k
 goM:GoM s k
 inv:InvC cs
 kept:KeptU cs
 room:cs.room=room
 ops:OpsF G wr v l
 low:∀ q,M q→w.heap.size≤q
 below:Below w.heap.size w wr
def PlayedAt (G:Nat→Prop) (room:Int) (w:World) (b:Nat) (F M:Nat→Prop) (c:CSt) (w':World):Prop :=
 (∀ q,G q→F q)∧FcAt F w' b c M∧(∀ q,M q→w.heap.size≤q)∧InvC c∧KeptU c∧c.room=room∧GoC c 100
def PlayedPost (G:Nat→Prop) (room:Int) (w:World) (e:Ending) (w':World):Prop :=
 Below w.heap.size w w'∧(e=.returned (.pointer none)∨∃ b F M c,e=.returned (.pointer (some ⟨b,0,none⟩))∧PlayedAt G room w b F M c w')
end Go.Proofs.YtlkolcokjmlmjaaGreat.Tx
namespace Go.Proofs.YtlkolcokjmlmjaaGreat.Tx
open Go.RowKit Go.Maps Go.Proofs.YtlkolcokjmlmjaaGreat.Sh
end Go.Proofs.YtlkolcokjmlmjaaGreat.Tx
set_option linter.unusedVariables false
set_option linter.unusedSimpArgs false
namespace Go.Proofs.YtlkolcokjmlmjaaGreat.Wk
open Go.Shelf Go.RowKit Go.Lib Go.Sort
section
variable {β:Type} [Inhabited β]
theorem get_swp (D:Array β) {i j:Nat} (hi:i<D.size) (hj:j<D.size) (t:Nat):(swp D i j)[t]! = D[if t=i then j else if t=j then i else t]! := by
 by_cases h1:t=i
 ·subst h1
  rw [if_pos rfl]
  by_cases h2:t=j
  ·subst h2;exact swp_right D t t hj
  ·exact swp_left D t j hi h2
 ·rw [if_neg h1]
  by_cases h2:t=j
  ·subst h2;rw [if_pos rfl];exact swp_right D i t hj
  ·rw [if_neg h2];exact swp_other D i j t h1 h2
structure TagOk (tag:β→Nat) (d0 D:Array β):Prop where
 size:D.size=d0.size
 was:∀ i,i<D.size→tag D[i]!<d0.size∧D[i]! = d0[tag D[i]!]!
 once:∀ i j,i<D.size→j<D.size→tag D[i]! = tag D[j]! → i=j
variable {tag:β→Nat} {key:β→Int} {d0 D:Array β}
theorem TagOk.refl (h:∀ i,i<d0.size→tag d0[i]! = i):TagOk tag d0 d0 :=
 ⟨rfl,fun i hi=>by rw [h i hi];exact ⟨hi,rfl⟩,fun i j hi hj e=>by rw [h i hi,h j hj] at e;exact e⟩
theorem TagOk.swp (h:TagOk tag d0 D) {i j:Nat} (hi:i<D.size) (hj:j<D.size):TagOk tag d0 (swp D i j):=by
 have hp:∀ t,t<D.size→(if t=i then j else if t=j then i else t)<D.size:=fun t ht=>by split;exact hj;split;exact hi;exact ht
 refine ⟨by rw [size_swp];exact h.size,fun t ht=>?_,fun t u ht hu e=>?_⟩
 ·rw [size_swp] at ht
  rw [get_swp D hi hj]
  exact h.was _ (hp t ht)
 ·rw [size_swp] at ht hu
  rw [get_swp D hi hj,get_swp D hi hj] at e
  have:=h.once _ _ (hp t ht) (hp u hu) e
  split at this <;> split at this <;> (try split at this) <;> (try split at this) <;> omega
def tlt (tag:β→Nat) (key:β→Int) (x y:β):Prop:=key x<key y∨(key x=key y∧tag x<tag y)
omit [Inhabited β] in
theorem tlt.trans {x y z:β} (h1:tlt tag key x y) (h2:tlt tag key y z):tlt tag key x z:=by
 rcases h1 with h1 | ⟨h1,h1'⟩ <;> rcases h2 with h2 | ⟨h2,h2'⟩
 ·exact .inl (by omega)
 ·exact .inl (by omega)
 ·exact .inl (by omega)
 ·exact .inr ⟨by omega,by omega⟩
omit [Inhabited β] in
theorem tlt.le {x y:β} (h:tlt tag key x y):key x≤key y:=by
 rcases h with h | ⟨h,_⟩ <;> omega
def SrtT (tag:β→Nat) (key:β→Int) (D:Array β) (a b:Nat):Prop:=∀ i j,a≤i→i<j→j<b→tlt tag key D[i]! D[j]!
omit [Inhabited β] in
theorem inc_ext {f:β→Nat}:∀ {l m:List β},(l.Pairwise fun x y=>f x<f y)→(m.Pairwise fun x y=>f x<f y)→(∀ x,x∈l↔x∈m)→l=m
 | [],[],_,_,_=>rfl
 | [],y::m,_,_,h=>by have:=(h y).2 List.mem_cons_self;cases this
 | x::l,[],_,_,h=>by have:=(h x).1 List.mem_cons_self;cases this
 | x::l,y::m,hl,hm,h=>by
  obtain ⟨l1,l2⟩:=List.pairwise_cons.1 hl
  obtain ⟨m1,m2⟩:=List.pairwise_cons.1 hm
  have hxy:x=y:=by
   rcases List.mem_cons.1 ((h x).1 List.mem_cons_self) with e | e
   ·exact e
   ·rcases List.mem_cons.1 ((h y).2 List.mem_cons_self) with e2 | e2
    ·exact e2.symm
    ·have:=l1 y e2;have:=m1 x e;omega
  subst hxy
  rw [inc_ext l2 m2 fun z=>⟨fun hz=>?_,fun hz=>?_⟩]
  ·rcases List.mem_cons.1 ((h z).1 (List.mem_cons_of_mem _ hz)) with e | e
   ·have:=l1 z hz;rw [e] at this;omega
   ·exact e
  ·rcases List.mem_cons.1 ((h z).2 (List.mem_cons_of_mem _ hz)) with e | e
   ·have:=m1 z hz;rw [e] at this;omega
   ·exact e
theorem get_list (D:Array β) {i:Nat} (hi:i<D.size):D[i]! = D.toList[i]'(by simpa using hi):=by
 rw [getElem!_pos D i hi]
 simp
theorem mem_get {x:β}:x∈D.toList↔∃ i,i<D.size∧D[i]! = x:=by
 constructor
 ·intro h
  obtain ⟨i,hi,e⟩:=List.mem_iff_getElem.1 h
  have hi':i<D.size:=by simpa using hi
  exact ⟨i,hi',by rw [get_list D hi'];exact e⟩
 ·rintro ⟨i,hi,rfl⟩
  rw [get_list D hi]
  exact List.getElem_mem _
theorem pair_get {R:β→β→Prop} (h:∀ i j,i<j→j<D.size→R D[i]! D[j]!):D.toList.Pairwise R:=by
 rw [List.pairwise_iff_getElem]
 intro i j hi hj hij
 have hj':j<D.size:=by simpa using hj
 have hi':i<D.size:=by omega
 have:=h i j hij hj'
 rw [get_list D hi',get_list D hj'] at this
 exact this
theorem TagOk.all (h:TagOk tag d0 D) (h0:∀ i,i<d0.size→tag d0[i]! = i) {t:Nat} (ht:t<d0.size):∃ i,i<D.size∧D[i]! = d0[t]! := by
 have hnd:(D.toList.map tag).Nodup:=by
  rw [List.nodup_iff_pairwise_ne,List.pairwise_map]
  refine pair_get fun i j hij hj e=>?_
  have:=h.once i j (by omega) hj e
  omega
 by_cases hm:t∈D.toList.map tag
 ·obtain ⟨x,hx,rfl⟩:=List.mem_map.1 hm
  obtain ⟨i,hi,rfl⟩:=mem_get.1 hx
  exact ⟨i,hi,(h.was i hi).2⟩
 ·have h1:(t::D.toList.map tag).Nodup:=List.nodup_cons.2 ⟨hm,hnd⟩
  have h2:=Tx.nodup_within h1 (m:=List.range d0.size) (fun x hx=>by
   rw [List.mem_range]
   rcases List.mem_cons.1 hx with rfl | hx
   ·exact ht
   ·obtain ⟨y,hy,rfl⟩:=List.mem_map.1 hx
    obtain ⟨i,hi,rfl⟩:=mem_get.1 hy
    exact (h.was i hi).1)
  simp at h2
  have:=h.size
  omega
theorem TagOk.out (h:TagOk tag d0 D) (h0:∀ i,i<d0.size→tag d0[i]! = i) (hs:SrtT tag key D 0 D.size):(D.toList.Pairwise fun x y=>key x≤key y)∧∀ k,(D.toList.filter fun x=>decide (key x=k))=d0.toList.filter fun x=>decide (key x=k):=by
 refine ⟨pair_get fun i j hij hj=>(hs i j (Nat.zero_le _) hij hj).le,fun k=>?_⟩
 refine inc_ext (f:=tag) ?_ ?_ fun x=>?_
 ·rw [List.pairwise_filter]
  refine pair_get fun i j hij hj h1 h2=>?_
  have h1:=of_decide_eq_true h1
  have h2:=of_decide_eq_true h2
  rcases hs i j (Nat.zero_le _) hij hj with h3 | h3
  ·omega
  ·exact h3.2
 ·rw [List.pairwise_filter]
  refine pair_get fun i j hij hj _ _=>?_
  rw [h0 i (by omega),h0 j hj]
  exact hij
 ·rw [List.mem_filter,List.mem_filter,mem_get,mem_get]
  constructor
  ·rintro ⟨⟨i,hi,rfl⟩,h2⟩
   exact ⟨⟨_,(h.was i hi).1,(h.was i hi).2.symm⟩,h2⟩
  ·rintro ⟨⟨t,ht,rfl⟩,h2⟩
   exact ⟨h.all h0 ht,h2⟩
end
end Go.Proofs.YtlkolcokjmlmjaaGreat.Wk
