/- Texts put together: VRe0, VRg5. -/
import Derived.Test.YtlkolcokjmlmjaaGreatQv48
import Derived.Test.YtlkolcokjmlmjaaGreatQv34
import Derived.Test.YtlkolcokjmlmjaaGreatQv36
import Derived.Test.YtlkolcokjmlmjaaGreatQv38
import Derived.Test.YtlkolcokjmlmjaaGreatQv46
set_option linter.unusedVariables false
set_option linter.unusedSimpArgs false
namespace Go.Proofs.YtlkolcokjmlmjaaGreat.Tx
open Go.RowKit Go.Maps Go.Proofs.YtlkolcokjmlmjaaGreat.Sh
structure ROp where
 kind:Int
 name:List UInt8
 old:List UInt8
 new:List UInt8
 f:LOp
structure ROpCells (G:Nat→Prop) (w:World) (a:Addr) (o:ROp) (dv pv:Value):Prop where
 data:By G w dv o.f.data
 plan:InL evK G w pv o.f.plan
 kind:w.cell? a=some (.int .i64 o.kind)
 name:w.cell? ⟨a.block,a.off+1,none⟩=some (.string (str o.name))
 old:w.cell? ⟨a.block,a.off+2,none⟩=some (.string (str o.old))
 new:w.cell? ⟨a.block,a.off+3,none⟩=some (.string (str o.new))
 fkind:w.cell? ⟨a.block,a.off+4,none⟩=some (.int .i64 o.f.kind)
 mode:w.cell? ⟨a.block,a.off+5,none⟩=some (.int .i64 o.f.mode)
 keep:w.cell? ⟨a.block,a.off+6,none⟩=some (.int .i64 o.f.keep)
 torn:w.cell? ⟨a.block,a.off+7,none⟩=some (.int .i64 o.f.torn)
 path:w.cell? ⟨a.block,a.off+8,none⟩=some (.string (str o.f.path))
 dest:w.cell? ⟨a.block,a.off+9,none⟩=some (.string (str o.f.dest))
 dcell:w.cell? ⟨a.block,a.off+10,none⟩=some dv
 pcell:w.cell? ⟨a.block,a.off+11,none⟩=some pv
def OpsR (G:Nat→Prop) (w:World) (v:Value) (l:List ROp):Prop:=∃ A c,v=.slice A l.length c∧l.length≤c∧c≤maxLen∧∀ k o,l[k]? = some o→∃ ad dv pv,A=some ad∧G ad.block∧ad.block<w.heap.size∧ROpCells G w (ad.add (k*12)) o dv pv
theorem ROpCells.only {G M:Nat→Prop} {w w':World} {a:Addr} {o:ROp} {dv pv:Value} (h:ROpCells G w a o dv pv) (ho:Only M w w') (hG:∀ k,G k→¬ M k) (ha:G a.block) (hl:a.block<w.heap.size):ROpCells G w' a o dv pv:=by
 have hn:=hG _ ha
 exact ⟨h.data.only ho hG,h.plan.only ho hG,(ho.cell hl hn).trans h.kind,(ho.cell (p:=⟨a.block,a.off+1,none⟩) hl hn).trans h.name,(ho.cell (p:=⟨a.block,a.off+2,none⟩) hl hn).trans h.old,(ho.cell (p:=⟨a.block,a.off+3,none⟩) hl hn).trans h.new,(ho.cell (p:=⟨a.block,a.off+4,none⟩) hl hn).trans h.fkind,(ho.cell (p:=⟨a.block,a.off+5,none⟩) hl hn).trans h.mode,(ho.cell (p:=⟨a.block,a.off+6,none⟩) hl hn).trans h.keep,(ho.cell (p:=⟨a.block,a.off+7,none⟩) hl hn).trans h.torn,(ho.cell (p:=⟨a.block,a.off+8,none⟩) hl hn).trans h.path,(ho.cell (p:=⟨a.block,a.off+9,none⟩) hl hn).trans h.dest,(ho.cell (p:=⟨a.block,a.off+10,none⟩) hl hn).trans h.dcell,(ho.cell (p:=⟨a.block,a.off+11,none⟩) hl hn).trans h.pcell⟩
theorem OpsR.only {G M:Nat→Prop} {w w':World} {v:Value} {l:List ROp} (h:OpsR G w v l) (ho:Only M w w') (hG:∀ k,G k→¬ M k):OpsR G w' v l:=by
 obtain ⟨A,c,h1,h2,h3,h4⟩:=h
 refine ⟨A,c,h1,h2,h3,fun k o hk=>?_⟩
 obtain ⟨ad,dv,pv,e,g1,g2,g3⟩:=h4 k o hk
 exact ⟨ad,dv,pv,e,g1,Nat.lt_of_lt_of_le g2 ho.size,g3.only ho hG (by rw [addr_block];exact g1) (by rw [addr_block];exact g2)⟩
theorem OpsR.below {G:Nat→Prop} {w w':World} {v:Value} {l:List ROp} (h:OpsR G w v l) (hb:Below w.heap.size w w'):OpsR G w' v l:=h.only (Only.of_below (M:=fun _=>False) hb) (fun _ _=>id)
structure RFew (o:ROp):Prop where
 name:o.name.length≤400
 old:o.old.length≤400
 new:o.new.length≤400
def RFewPost (l:List ROp) (w:World) (e:Ending) (w':World):Prop:=∃ t,e=.returned (.bool t)∧(t=true→l.length≤60∧(∀ o∈l,RFew o)∧∀ o∈l,OpFew o.f)∧Below w.heap.size w w'
set_option maxRecDepth 100000 in
set_option maxHeartbeats 6400000 in
theorem rfew_any (G : Nat → Prop) (v : Value) (l : List ROp) (w : World) (h : OpsR G w v l) (hG : ∀ k, G k → k < w.heap.size) :
  Calls Tryz.prog 5 #[v] w (RFewPost l w):=by
 have HL:=Lib.hid h
 have HG:=Lib.hid hG
 obtain ⟨A,c,rfl,hlc,hcm,_⟩:=h
 obtain ⟨n,hnn⟩:∃ n,l.length=n:=⟨_,rfl⟩
 have HN:=Lib.hid hnn
 rw [hnn] at hlc HL ⊢
 unfold maxLen at hcm
 clear hnn hG
 go_enter Tryz.func5,Tryz.ntmps5
 go_wp2
 go_loopw [3,4] (fun u i wr=>∃ (k:Nat) (els:List OpS),k≤n∧k≤60∧i=.int .i64 k∧OwnO G wr w.heap.size u els∧els.map OpS.o=(l.take k).map ROp.f∧els.length=k∧(∀ o∈l.take k,RFew o)∧Below w.heap.size w wr) (fun _ i _=>n - (intOf i).toNat)
 case atStart=>exact ⟨0,[],Nat.zero_le _,Nat.zero_le _,rfl,OwnO.nil_ _ _ _,rfl,rfl,fun o ho=>(by simp at ho),Below.refl _ _⟩
 case round =>
  obtain ⟨k,els,hk,hk6,rfl,ho,hm,hel,hfw,hb⟩:=hrel
  obtain ⟨A1,c1,hu3,_,_⟩:=ho.slice
  subst hu3
  rw [hel] at ho ⊢
  have HO:=Lib.hid ho
  have HB:=Lib.hid hb
  have HM:=Lib.hid hm
  have HEL:=Lib.hid hel
  have HFW:=Lib.hid hfw
  clear ho hb hm hel hfw
  have k0:(0:Int)≤(k:Int):=by omega
  by_cases hlt:k<n
  ·have k1:(k:Int)<(n:Int):=by omega
   by_cases h60:k<60
   ·have k6:(k:Int)<60:=by omega
    have hkl:k<l.length:=by rw [HN.out];exact hlt
    obtain ⟨A',c',hv,_,_,hat⟩:=HL.out.below HB.out
    injection hv with e1 e2 e3
    subst e1
    clear e2 e3
    obtain ⟨ad,dv,pv,rfl,hGa,hal,hoc⟩:=hat k l[k] (List.getElem?_eq_getElem hkl)
    clear hat
    have HX:=Lib.hid (show l.take (k+1)=l.take k++[l[k]] from List.take_succ_eq_append_getElem hkl)
    generalize l[k]=o at *
    clear hkl hGa hal
    obtain ⟨rk,nm,ol,nw,fo⟩:=o
    obtain ⟨kd,mo,ke,tn',pa,de,da,pl⟩:=fo
    obtain ⟨hdv,hplan,x0,x1,x2,x3,x4,x5,x6,x7,x8,x9,x10,x11⟩:=hoc
    dsimp only at x0 x1 x2 x3 x4 x5 x6 x7 x8 x9 x10 x11 hdv hplan
    obtain ⟨dA,dc,rfl,_,_⟩:=hdv.slice
    obtain ⟨pA,pc,rfl,_,_⟩:=evs_slice hplan.tmp
    have s1:=str_size nm
    have s2:=str_size ol
    have s3:=str_size nw
    obtain ⟨l1,hl1⟩:∃ x,nm.length=x:=⟨_,rfl⟩
    obtain ⟨l2,hl2⟩:∃ x,ol.length=x:=⟨_,rfl⟩
    obtain ⟨l3,hl3⟩:∃ x,nw.length=x:=⟨_,rfl⟩
    rw [hl1] at s1
    rw [hl2] at s2
    rw [hl3] at s3
    have HL1:=Lib.hid hl1
    have HL2:=Lib.hid hl2
    have HL3:=Lib.hid hl3
    clear hl1 hl2 hl3
    by_cases hc1:l1≤400
    ·by_cases hc2:l2≤400
     ·by_cases hc3:l3≤400
      ·have d1:¬ (400:Int)<(l1:Int):=by omega
       have d2:¬ (400:Int)<(l2:Int):=by omega
       have d3:¬ (400:Int)<(l3:Int):=by omega
       have HRF:Hid (RFew ⟨rk,nm,ol,nw,⟨kd,mo,ke,tn',pa,de,da,pl⟩⟩):=⟨by show nm.length≤400;rw [HL1.out];exact hc1,by show ol.length≤400;rw [HL2.out];exact hc2,by show nw.length≤400;rw [HL3.out];exact hc3⟩
       have hwa:Below wr.heap.size wr (wr.alloc (.cells #[.int .i64 kd,.int .i64 mo,.int .i64 ke,.int .i64 tn',.string (str pa),.string (str de),.slice dA da.length dc,.slice pA pl.length pc] 35)):=(Below.refl _ _).alloc (Nat.le_refl _) _
       have HWA:=Lib.hid hwa
       have HOA:=Lib.hid (HO.out.below hwa)
       have HBK:Hid (Blk (wr.alloc (.cells #[.int .i64 kd,.int .i64 mo,.int .i64 ke,.int .i64 tn',.string (str pa),.string (str de),.slice dA da.length dc,.slice pA pl.length pc] 35)) wr.heap.size 35 (opC ⟨⟨kd,mo,ke,tn',pa,de,da,pl⟩,.slice dA da.length dc,.slice pA pl.length pc⟩).toArray):=Blk.new _ _ _
       have HDA:=Lib.hid (hdv.only (Only.of_below (M:=fun _=>False) hwa) (fun _ _=>id))
       have HPA:=Lib.hid (hplan.below hwa)
       have HZ:Hid (w.heap.size≤(wr.alloc (.cells #[.int .i64 kd,.int .i64 mo,.int .i64 ke,.int .i64 tn',.string (str pa),.string (str de),.slice dA da.length dc,.slice pA pl.length pc] 35)).heap.size):=Nat.le_trans HB.out.size hwa.size
       have HLT:Hid (∀ q,(Value.slice A1 k c1).ownBlock=some q→w.heap.size≤q):=fun q hq=>(HO.out.row.lt q hq).1
       have HSM:Hid (els.length≤1000000):=by unfold Hid;rw [HEL.out];omega
       clear hwa hdv hplan hc1 hc2 hc3
       go_wp2_with (at_builtin;refine own_app (t:=⟨⟨kd,mo,ke,tn',pa,de,da,pl⟩,.slice dA da.length dc,.slice pA pl.length pc⟩) (g:=wr.heap.size) (v:=.slice A1 k c1) rfl (.tmp 40) (.tmp 46) rfl (by exact HOA.out) (by exact HBK.out) (by exact HDA.out) (by exact HPA.out) (by rfl) (by rfl) HSM.out (by exact HZ.out) (by exact HG.out) ?_;intro v5 w5 ho5 hg5;have HO5:=Lib.hid ho5;have HG5:=Lib.hid hg5;clear ho5 hg5)
       go_roundw
       case rel =>
        refine ⟨k+1,_,by omega,by omega,by go_num,HO5.out,?_,by rw [List.length_append,List.length_singleton,HEL.out],?_,?_⟩
        ·rw [HX.out,List.map_append,List.map_append,HM.out]
         rfl
        ·intro o ho
         rw [HX.out] at ho
         rcases List.mem_append.1 ho with ho | ho
         ·exact HFW.out o ho
         ·rw [List.mem_singleton.1 ho];exact HRF.out
        ·exact (HB.out.trans (HWA.out.mono HB.out.size)).grown HG5.out HZ.out (fun j hj=>HLT.out j hj)
       case measure=>simp [intOf];omega
      ·have d1:¬ (400:Int)<(l1:Int):=by omega
       have d2:¬ (400:Int)<(l2:Int):=by omega
       have d3:(400:Int)<(l3:Int):=by omega
       clear hdv hplan hc1 hc2 hc3
       go_wp2_with fail
       go_ret
       exact ⟨false,rfl,fun h=>(by cases h),HB.out⟩
     ·have d1:¬ (400:Int)<(l1:Int):=by omega
      have d2:(400:Int)<(l2:Int):=by omega
      clear hdv hplan hc1 hc2
      go_wp2_with fail
      go_ret
      exact ⟨false,rfl,fun h=>(by cases h),HB.out⟩
    ·have d1:(400:Int)<(l1:Int):=by omega
     clear hdv hplan hc1
     go_wp2_with fail
     go_ret
     exact ⟨false,rfl,fun h=>(by cases h),HB.out⟩
   ·obtain rfl:k=60:=by omega
    have k6:¬ ((60:Nat):Int)<60:=by omega
    have kn:¬ ((n:Int)≤60):=by omega
    go_wp2_with fail
    go_ret
    exact ⟨false,rfl,fun h=>(by cases h),HB.out⟩
  ·obtain rfl:k=n:=by omega
   have kn:((k:Int)≤60):=by omega
   have HF:Hid (els.map OpS.o=l.map ROp.f∧(∀ o∈l,RFew o)):=by
    have h1:=HM.out
    have h2:=HFW.out
    rw [List.take_of_length_le (Nat.le_of_eq HN.out)] at h1 h2
    exact ⟨h1,h2⟩
   have HOP:=Lib.hid (HO.out.ops (G':=fun _=>True) (fun _ _=>trivial) (fun _ _ _=>trivial))
   go_wp2_with fail
   refine (few_any (fun _=>True) _ (els.map OpS.o) wr (by have h:=HOP.out;exact h)).mono ?_
   rintro e w4 ⟨t,rfl,ht,hb4⟩
   have HB4:=Lib.hid (HB.out.trans (hb4.mono HB.out.size))
   have HT:=Lib.hid ht
   clear hb4 ht
   go_wp2_with fail
   go_ret
   refine ⟨t,rfl,fun h=>?_,HB4.out⟩
   have h1:=(HT.out h).2
   rw [HF.out.1] at h1
   exact ⟨by rw [HN.out];exact hk6,HF.out.2,fun o ho=>h1 _ (List.mem_map.2 ⟨o,ho,rfl⟩)⟩
end Go.Proofs.YtlkolcokjmlmjaaGreat.Tx
set_option linter.unusedVariables false
set_option linter.unusedSimpArgs false
namespace Go.Proofs.YtlkolcokjmlmjaaGreat.Tx
open Go.RowKit Go.Maps Go.Proofs.YtlkolcokjmlmjaaGreat.Sh
section
variable {F M Mf Mx Ff Fx G:Nat→Prop} {w wr w1 w2:World} {b d i j k:Nat} {c c':CSt} {s s':FSM} {P:List (List UInt8)} {o:ROp}
theorem UsrC.crt (h:UsrC c) (p:List UInt8) (mode:Int) (data:List UInt8):UsrC (crtC c p mode data true):=h.does ⟨0,mode,0,0,p,[],data,[]⟩
theorem UsrC.mov (h:UsrC c) (fr tt:List UInt8):UsrC (movC c fr tt false):=h.does ⟨2,0,0,0,fr,tt,[],[]⟩
theorem UsrC.rem (h:UsrC c) (p:List UInt8):UsrC (remC c p):=h.does ⟨4,0,0,0,p,[],[],[]⟩
theorem UsrC.syn (h:UsrC c):UsrC (synC c):=h.does ⟨5,0,0,0,[],[],[],[]⟩
theorem UsrC.prep (h:UsrC c) (n old:List UInt8):UsrC (prepC c n old):=by
 unfold prepC
 split
 ·exact h.bg.syn
 ·exact h.bg
theorem UsrC.sl (h:UsrC c) (n old:List UInt8):UsrC (slC c n old):=by
 unfold slC
 split
 ·split
  ·exact ((h.prep n old).mov _ _).syn
  ·exact (h.prep n old).mov _ _
 ·exact (h.prep n old).rem _
theorem UsrC.set_ (h:UsrC c) (n old new:List UInt8):UsrC (setC c n old new):=by
 unfold setC
 split
 ·exact h
 split
 ·exact h
 split
 ·exact (h.crt _ _ _).sl _ _
 ·exact h.crt _ _ _
theorem UsrC.get_ (h:UsrC c) (n:List UInt8):UsrC (getC c n):=by
 unfold getC
 split
 ·exact h
 ·exact h.bg
theorem UsrC.del_ (h:UsrC c) (n old:List UInt8):UsrC (delC c n old):=by
 unfold delC
 split
 ·exact h
 split
 ·exact h
 split
 ·exact h.bg
 split
 ·exact h.bg
 split
 ·exact (h.bg.rem _).syn
 ·exact h.bg.rem _
theorem UsrC.unl:∀ {l:List (List UInt8)} {c:CSt},UsrC c→UsrC (unlC c l)
 | [],_,h=>h
 | n::l,c,h=>by
  show UsrC (if remE c (lockP n)=0 then unlC (remC c (lockP n)) l else remC c (lockP n))
  split
  ·exact UsrC.unl (l:=l) (h.rem (lockP n))
  ·exact h.rem (lockP n)
theorem UsrC.ulk (h:UsrC c):UsrC (ulkC c):=by
 unfold ulkC
 split
 ·exact h.bg.unl
 ·exact h.bg
theorem PB.ulk (h:PB c P):PB (ulkC c) P:=by
 unfold ulkC
 split
 ·exact h.bg.unl
 ·exact h.bg
theorem UsrC.doesR {p:LOp} (h:UsrC c) (hd:DoesR c p c'):UsrC c':=hd.keeps (P:=UsrC) (h.does p) (fun _ _=>h)
theorem PB.doesR {p:LOp} (h:PB c P) (hd:DoesR c p c') (h1:p.path∈P) (h2:p.dest∈P) (h3:∀ e∈p.plan,e.path∈P):PB c' P :=
 hd.keeps (P:=fun c=>PB c P) (h.does h1 h2 h3) (fun R hR=>h.planned fun e he=>h3 e (hR.mem e he).1)
theorem GoS.doesR {p:LOp} (h:GoS c i) (ho:OpOK p) (hd:DoesR c p c'):GoS c' (i+130):=by
 refine hd.keeps (P:=fun c=>GoS c (i+130)) (h.does ho) (fun R hR=>?_)
 obtain ⟨⟨N,h1,h2⟩,h3,h4,h5⟩:=h
 have hl:R.length≤60:=by
  rw [hR.len]
  exact Nat.le_trans (List.length_filter_le _ _) ho.plan
 exact ⟨⟨N,h1.plan _,by show N+2*R.length≤_;omega⟩,⟨h3.1,by have:=h3.2;show c.calls≤_;omega⟩,hl,fun e he=>ho.paths e (hR.mem e he).1⟩
theorem TieG.doesR {p:LOp} (h:TieG c s i) (ho:OpOK p) (hd:DoesR c p c') (ht:Tied c' (doesM s p)):TieG c' (doesM s p) (i+130):=by
 obtain ⟨j,hj⟩:=h.goM
 exact ⟨ht,h.go.doesR ho hd,_,hj.does ho⟩
theorem TieG.goN (h:TieG c s i) (hi:i≤390000):GoN c i:=by
 obtain ⟨N,h1,h2⟩:=h.go.fits
 exact ⟨h1.more (by omega),⟨h.go.calls.1,by have:=h.go.calls.2;omega⟩,h.go.plan,h.go.paths⟩
theorem TieG.goMN (h:TieG c s i) (hi:i≤390000):GoMN s i:=by
 obtain ⟨N,h1,h2⟩:=h.go.fits
 obtain ⟨j,hj⟩:=h.goM
 exact ⟨h.tied.fitsM (h1.more (by omega)) hj,⟨by rw [← h.tied.tie.calls];exact h.go.calls.1,by rw [← h.tied.tie.calls];have:=h.go.calls.2;omega⟩,hj.plan,hj.paths⟩
theorem FcAt.wide_ {F':Nat→Prop} (h:FcAt F w b c M) (h1:∀ k,F k→F' k) (h2:∀ k,F' k→¬ M k) (h3:∀ k,F' k→k<w.heap.size):FcAt F' w b c M:=by
 obtain ⟨x,hx,hm⟩:=h
 exact ⟨x,hx.mono h1 (fun k hk hf=>h2 k hk ((hm k).2 hf)) h3,hm⟩
theorem TwoA.at_ (h:TwoA F w b c d s M):∃ F' M',TwoAt F' w b c d s M':=by
 obtain ⟨Ff,Fx,Mf,Mx,h1,h2⟩:=h
 refine ⟨fun k=>Ff k∨Fx k,fun k=>Mf k∨Mx k,Mf,Mx,⟨h1.f.wide_ (fun k hk=>.inl hk) (fun k hk hm=>?_) (fun k hk=>?_),h1.x.mono_ (fun k hk=>.inr hk) (fun k hk hm=>?_) (fun k hk=>?_),h1.apart⟩,fun _=>Iff.rfl⟩
 ·rcases hk with hk | hk
  ·exact h1.f.apart_ k hk hm
  ·exact h1.xf k hk hm
 ·exact hk.elim (fun h=>h1.f.low k h) (fun h=>h1.x.low' k h)
 ·rcases hk with hk | hk
  ·exact h1.fx k hk hm
  ·exact h1.x.apart_ k hk hm
 ·exact hk.elim (fun h=>h1.f.low k h) (fun h=>h1.x.low' k h)
theorem same_y (h : TwoQ F M w b c d s w1) (ht : TieG c s i) (hi : i ≤ 390000) (hu : UsrC c) :
  Calls Tryz.prog 20 #[.pointer (some ⟨b,0,none⟩),.pointer (some ⟨d,0,none⟩)] w1 fun e w'=>e=.returned (.bool true)∧Below w1.heap.size w1 w':=by
 obtain ⟨M1,h1,_⟩:=h
 obtain ⟨F',M',h2⟩:=h1.at_
 exact same_x F' M' b d c s w1 h2 ht.tied (ht.go.small (by omega)) hu
structure RfInv (G:Nat→Prop) (w:World) (v:Value) (l:List ROp) (b d k:Nat) (wr:World) (M:Nat→Prop) (c:CSt) (s:FSM) (P:List (List UInt8)):Prop where
 two:TwoA G wr b c d s M
 tie:TieG c s (3900*k)
 pb:PB c P
 len:P.length≤64*k
 usr:UsrC c
 ops:OpsR G wr v l
 low:∀ q,M q→w.heap.size≤q
 below:Below w.heap.size w wr
def opPs (o:ROp):List (List UInt8):=[lockP o.name,refP o.name,o.f.path,o.f.dest]++o.f.plan.map (·.path)
theorem opPs_len (h:o.f.plan.length≤60):(opPs o).length≤64:=by
 unfold opPs
 rw [List.length_append,List.length_map]
 show 4+_≤64
 omega
def Went (G M:Nat→Prop) (wr:World) (b d k:Nat) (P:List (List UInt8)) (wx:World):Prop:=∃ c' s',TwoQ G M wr b c' d s' wx∧TieG c' s' (3900*(k+1))∧PB c' P∧UsrC c'
variable {v:Value} {l:List ROp}
theorem RfInv.next (h:RfInv G w v l b d k wr M c s P) (ho:o.f.plan.length≤60) (hw:Went G M wr b d k (P++opPs o) w1) (hb:Below w1.heap.size w1 w2):∃ M' c' s',RfInv G w v l b d (k+1) w2 M' c' s' (P++opPs o):=by
 obtain ⟨c',s',⟨M1,h1,h2,h3⟩,h4,h5,h6⟩:=hw
 have hz2:=h.below.size
 refine ⟨M1,c',s',⟨h1.below hb,h4,h5,by have:=opPs_len ho;have:=h.len;rw [List.length_append];omega,h6,(h.ops.only h2 (fun q hq=>h.two.apart_ q hq)).below hb,fun q hq=>?_,?_⟩⟩
 ·rcases h3 q hq with h7 | h7
  ·exact h.low q h7
  ·omega
 ·have h8:Below w.heap.size w w1:=h.below.trans ⟨h2.os,h2.tape,h2.output,h2.size,fun q hq=>h2.block q (by omega) (fun hm=>by have:=h.low q hm;omega)⟩
  exact h8.trans (hb.mono h8.size)
theorem Went.of_two (hX:TwoS G w1 b c d s Ff Fx Mf Mx) (hM:∀ k,M k↔Mf k∨Mx k∨((Ff k∨Fx k)∧¬ G k)) (hb:Below wr.heap.size wr w1) (hp:FcPost Ff Mf w1 b c' w2) {wx:World} (hq:RPost Fx Mx w2 d c' i wx) (hi:i≤3900*(k+1)) (hpb:PB c' P) (hu:UsrC c'):Went G M wr b d k P wx:=by
 obtain ⟨s',h1,h2⟩:=hq
 exact ⟨c',s',TwoQ.of_below hb (twoq_both hX hM hp h1),h2.upto hi,hpb,hu⟩
theorem Went.then_below (h:Went G M wr b d k P w1) (hb:Below w1.heap.size w1 w2):Went G M wr b d k P w2:=by
 obtain ⟨c',s',h1,h2⟩:=h
 exact ⟨c',s',h1.then_below hb,h2⟩
theorem Went.same (h : Went G M wr b d k P w1) (hk : k < 60) :
  Calls Tryz.prog 20 #[.pointer (some ⟨b,0,none⟩),.pointer (some ⟨d,0,none⟩)] w1 fun e w'=>e=.returned (.bool true)∧Below w1.heap.size w1 w':=by
 obtain ⟨c',s',h1,h2,_,h4⟩:=h
 exact same_y h1 h2 (by omega) h4
theorem TwoS.gotR (hX:TwoS G w1 b c d s Ff Fx Mf Mx) (hp:FcPost Ff Mf w1 b c' w2) (ht:∃ j,TieG c s j∧j≤i):RAt Fx w2 d c i Mx:=by
 obtain ⟨j,h1,h2⟩:=ht
 exact ⟨s,hX.later hp,h1.upto h2⟩
theorem OwnV.stays {E:TypeId} {B:Nat} {vs:List Value} (h:OwnV E w B v vs) (ho:Only M w w1) (hm:∀ k,M k→k<B):OwnV E w1 B v vs:=by
 rcases h with ⟨h0,h1 | ⟨g,cap,cur,hv,hb,hg,hc,hm',hcs,htk⟩⟩
 ·exact ⟨h0,.inl h1⟩
 ·subst hv
  have hl:g<w.heap.size:=(Array.getElem?_eq_some_iff.1 hg).1
  exact ⟨h0,.inr ⟨g,cap,cur,rfl,hb,(ho.block g hl (fun hk=>by have:=hm g hk;omega)).trans hg,hc,hm',hcs,htk⟩⟩
end
end Go.Proofs.YtlkolcokjmlmjaaGreat.Tx
