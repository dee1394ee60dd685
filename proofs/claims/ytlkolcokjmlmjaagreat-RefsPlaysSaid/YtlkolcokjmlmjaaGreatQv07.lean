/- Texts put together: VFx4, VFr1, VFm1, VFx5. -/
import Derived.Test.YtlkolcokjmlmjaaGreatQv06
import Derived.Test.YtlkolcokjmlmjaaGreatQv05
import Derived.Test.YtlkolcokjmlmjaaGreatQv04
namespace Go.Proofs.YtlkolcokjmlmjaaGreat.Tx
open Go.RowKit Go.Proofs.YtlkolcokjmlmjaaGreat.Sh
theorem RowsOwn.rin {F:Nat→Prop} {w:World} {B:Nat} {v:Value} {R:List RowM} (h:RowsOwn F w B v R):RowsIn (fun k=>F k∨(B≤k∧k<w.heap.size)) w v R:=by
 obtain ⟨⟨ds,h1,h2⟩,_⟩:=h
 exact ⟨ds,Rd.of_own h1 (fun k hk=>.inr (h1.lt k hk)),h2.mono (fun _ _ hk=>.inl hk)⟩
theorem f2_lt {F:Nat→Prop} {a b:Nat} (h:∀ k,F k→k<b) (k:Nat) (hk:F k∨(a≤k∧k<b)):k<b:=hk.elim (h k) (·.2)
theorem f2_w {F:Nat→Prop} {a b c d w n:Nat} (h1:w≤a) (h2:w≤c) (k:Nat) (_:k<n) (hk:(F k∨(a≤k∧k<b))∨(c≤k∧k<d)):F k∨w≤k:=by
 rcases hk with (hk | hk) | hk
 ·exact .inl hk
 ·right;omega
 ·right;omega
theorem findZ_none {R:List RowM} {p:List UInt8} (h:findM R p=none):findZ R p=-1:=by unfold findZ;rw [h]
theorem findZ_some {R:List RowM} {p:List UInt8} {i:Nat} (h:findM R p=some i):findZ R p=(i:Int):=by unfold findZ;rw [h]
theorem find_at {R:List RowM} {p:List UInt8} {i:Nat} (h:findM R p=some i):∃ r,R[i]?=some r∧r.path=p:=by
 unfold findM at h
 rw [List.findIdx?_eq_some_iff_getElem] at h
 obtain ⟨hl,h1,_⟩:=h
 exact ⟨R[i],List.getElem?_eq_getElem hl,by simpa using h1⟩
set_option maxRecDepth 100000 in
set_option maxHeartbeats 1600000 in
theorem rapply_any (F:Nat→Prop) (v:Value) (R:List RowM) (o:OpM) (d:Value) (w:World) (h:RowsIn F w v R) (hn:R.length≤1000000) (hd:By F w d o.f.data) (hF:∀ k,F k→k<w.heap.size) :
  Calls Tryz.prog 109 #[v,.agg #[.int .i64 o.kind,.string (str o.fr),.string (str o.to),.int .i64 o.f.mode,d,.int .i64 o.f.time]] w fun e w'=>∃ v',e=.returned v'∧RowsIn (fun k=>F k∨w.heap.size≤k) w' v' (applyM R o)∧Below w.heap.size w w':=by
 have hone:=hd.one
 obtain ⟨wb,hwb⟩:∃ wb,wb=w.alloc (.cells #[.int .i64 o.kind,.string (str o.fr),.string (str o.to),.int .i64 o.f.mode,d,.int .i64 o.f.time] 136):=⟨_,rfl⟩
 have hB:Below w.heap.size w wb:=by rw [hwb];exact (Below.refl _ _).alloc (Nat.le_refl _) _
 have hblk:Blk wb w.heap.size 136 #[.int .i64 o.kind,.string (str o.fr),.string (str o.to),.int .i64 o.f.mode,d,.int .i64 o.f.time]:=by rw [hwb];exact Blk.new _ _ _
 have H:=Lib.hid (h.below hB)
 have HD:=Lib.hid (hd.only (Only.of_below (M:=fun _=>False) hB) (fun _ _=>id))
 have hFB:∀ k,F k→k<wb.heap.size:=fun k hk=>by have:=hF k hk;have:=hB.size;omega
 have HF:=Lib.hid hFB
 have HRL:=Lib.hid hn
 have c0:=hblk.cell 0
 have c1:=hblk.cell 1
 have c2:=hblk.cell 2
 have c3:=hblk.cell 3
 have c4:=hblk.cell 4
 have c5:=hblk.cell 5
 simp only [List.getElem?_toArray,List.getElem?_cons_zero,List.getElem?_cons_succ] at c0 c1 c2 c3 c4 c5
 have HB:=Lib.hid hB
 have HBLK:=Lib.hid hblk
 have hwz:=hB.size
 have hlt:=hblk.lt
 clear h hd hF hFB hn hB hblk
 go_enter Tryz.func109,Tryz.ntmps109
 go_upto_region 1 with (fail)
 rw [← hwb]
 clear hwb
 obtain ⟨q,hq⟩:∃ q,o.kind=q:=⟨_,rfl⟩
 have HQ:=Lib.hid hq
 rw [hq] at c0
 by_cases h1:q=1
 ·subst h1
  have HR:Hid (applyM R o=withM R o.to o.f):=by unfold Hid applyM;rw [if_pos hq]
  clear hq
  go_wp2_with fail
  refine (rwith_any F v R o.to o.f d _ H.out HRL.out HD.out HF.out).mono ?_
  rintro e w1 ⟨v1,rfl,ho,hb⟩
  have HO:=Lib.hid ho
  have HB1:=Lib.hid hb
  clear ho hb
  go_wp2_with fail
  go_ret
  refine ⟨v1,rfl,?_,HB.out.trans (HB1.out.mono hwz)⟩
  rw [HR.out]
  exact HO.out.rin.mono (fun k _ hk=>hk.imp id (fun h=>by have:=h.1;omega))
 ·have e1:(q==1)=false:=by rw [beq_eq_false_iff_ne];exact h1
  by_cases h2:q=2
  ·subst h2
   cases hf:findM R o.fr with
   | none =>
    have HR:Hid (applyM R o=R):=by unfold Hid applyM;rw [if_neg (by rw [hq];decide),if_pos hq,hf]
    have hz:=findZ_none hf
    have HZ:=Lib.hid hz
    clear hq h1 hf hz
    go_wp2_with fail
    refine (rfind_any F v R o.fr _ H.out).mono ?_
    rintro e w1 ⟨rfl,rfl⟩
    rw [HZ.out]
    go_wp2_with fail
    go_ret
    exact ⟨v,rfl,by rw [HR.out];exact H.out.mono (fun _ _ hk=>.inl hk),HB.out⟩
   | some i =>
    obtain ⟨r,hr,_⟩:=find_at hf
    have HR:Hid (applyM R o=withM (withoutM R o.fr) o.to r.f):=by unfold Hid applyM;rw [if_neg (by rw [hq];decide),if_pos hq,hf];simp only [hr]
    have hz:=findZ_some hf
    have HZ:=Lib.hid hz
    obtain ⟨A,c,rfl,hlc,hcm⟩:=H.out.slice
    have hil:i<R.length:=(List.getElem?_eq_some_iff.1 hr).1
    obtain ⟨n,hN⟩:∃ n,R.length=n:=⟨_,rfl⟩
    rw [hN] at hlc hil H ⊢
    have hn6:n≤1000000:=by rw [← hN];exact HRL.out
    unfold maxLen at hcm
    have HN:=Lib.hid hN
    obtain ⟨ad,d2,rfl,hby,x0,x1,x2,x3⟩:=H.out.at_ i r hr
    obtain ⟨A2,c2',rfl,_,_⟩:=hby.slice
    have HBY:=Lib.hid hby
    have i0:(0:Int)≤(i:Int):=by omega
    have i1:(i:Int)<(n:Int):=by omega
    clear hq h1 hf hz hr hN hby
    go_wp2_with fail
    refine (rfind_any F _ R o.fr _ H.out).mono ?_
    rintro e w1 ⟨rfl,rfl⟩
    rw [HZ.out]
    go_upto_region 9 with (fail)
    obtain ⟨wx,hwx⟩:∃ wx,wx=wb.alloc (.cells #[.int .i64 r.f.mode,.slice A2 r.f.data.length c2',.int .i64 r.f.time] 78):=⟨_,rfl⟩
    have hbx:Below wb.heap.size wb wx:=by rw [hwx];exact (Below.refl _ _).alloc (Nat.le_refl _) _
    have hblkx:Blk wx wb.heap.size 78 #[.int .i64 r.f.mode,.slice A2 r.f.data.length c2',.int .i64 r.f.time]:=by rw [hwx];exact Blk.new _ _ _
    rw [← hwx]
    have HS:Hid (∀ W,Below wx.heap.size wx W→W.cell? ⟨w.heap.size,1,none⟩=some (.string (str o.fr))∧W.cell? ⟨w.heap.size,2,none⟩=some (.string (str o.to))∧W.cell? ⟨wb.heap.size,0,none⟩=some (.int .i64 r.f.mode)∧W.cell? ⟨wb.heap.size,1,none⟩=some (.slice A2 r.f.data.length c2')∧W.cell? ⟨wb.heap.size,2,none⟩=some (.int .i64 r.f.time)):=fun W hW=>by
     have b1:=(HBLK.out.below hbx hlt).below hW ((HBLK.out.below hbx hlt).lt)
     have b2:=hblkx.below hW hblkx.lt
     exact ⟨b1.cell 1,b1.cell 2,b2.cell 0,b2.cell 1,b2.cell 2⟩
    have HX0:=Lib.hid (Below.refl wx.heap.size wx)
    have HIX:=Lib.hid (H.out.below hbx)
    have HFX:Hid (∀ k,F k→k<wx.heap.size):=fun k hk=>by have:=HF.out k hk;have:=hbx.size;omega
    have HBYX:=Lib.hid (HBY.out.only (Only.of_below (M:=fun _=>False) hbx) (fun _ _=>id))
    have hxz:=hbx.size
    have HBX:=Lib.hid (HB.out.trans (hbx.mono hwz))
    clear hwx hbx hblkx x0 x1 x2 x3 c0 c1 c2 c3 c4 c5 HBY
    go_cut [4] (fun q wz=>RowsIn (fun k=>F k∨w.heap.size≤k) wz q (withM (withoutM R o.fr) o.to r.f)∧Below w.heap.size w wz)
    case first =>
     go_region_held3 (fun W=>W.cell? ⟨w.heap.size,1,none⟩=some (.string (str o.fr))∧W.cell? ⟨w.heap.size,2,none⟩=some (.string (str o.to))∧W.cell? ⟨wb.heap.size,0,none⟩=some (.int .i64 r.f.mode)∧W.cell? ⟨wb.heap.size,1,none⟩=some (.slice A2 r.f.data.length c2')∧W.cell? ⟨wb.heap.size,2,none⟩=some (.int .i64 r.f.time))
      (first | with_reducible exact HS.out _ HX0.out | with_reducible exact HS.out _ HX0.out.drew | with_reducible exact HS.out _ HX0.out.drew.drew | with_reducible exact HS.out _ HB2.out | with_reducible exact HS.out _ HB2.out.drew | with_reducible exact HS.out _ HB2.out.drew.drew | with_reducible exact HS.out _ HB3.out | with_reducible exact HS.out _ HB3.out.drew)
      (first
       | (go_at_call 140;refine (rwith_any _ v2 (withoutM R o.fr) o.to r.f (.slice A2 r.f.data.length c2') _ (by exact HI2.out) HM2.out (by exact HD2.out) (by exact HF2.out)).mono ?_;rintro e w3 ⟨v3,rfl,ho3,hb3⟩;have HO3:=Lib.hid ho3;have HB3:=Lib.hid (Below.trans HB2.out (Below.mono (show Below w2.heap.size w2 w3 from ⟨hb3.os,hb3.tape,hb3.output,hb3.size,hb3.block⟩) HB2.out.size));clear ho3 hb3)
       | (go_at_call 131;refine (rwithout_any F _ R o.fr _ (by exact HIX.out) HRL.out (by exact HFX.out)).mono ?_;rintro e w2 ⟨v2,rfl,ho2,hb2⟩;have hb2':Below wx.heap.size wx w2:=⟨hb2.os,hb2.tape,hb2.output,hb2.size,hb2.block⟩;have HI2:=Lib.hid ho2.rin;have HB2:=Lib.hid hb2';have HM2:Hid ((withoutM R o.fr).length≤1000000):=Nat.le_trans (without_le R o.fr) HRL.out;have HD2:=Lib.hid ((HBYX.out.only (Only.of_below (M:=fun _=>False) hb2') (fun _ _=>id)).mono (F':=fun k=>F k∨(wx.heap.size≤k∧k<w2.heap.size)) (fun _ _ hk=>.inl hk));have HF2:=Lib.hid (f2_lt (a:=wx.heap.size) (fun k hk=>Nat.lt_of_lt_of_le (HFX.out k hk) hb2'.size));clear ho2 hb2 hb2'))
     all_goals (go_wp2_with fail;go_meet;exact ⟨HO3.out.rin.mono (f2_w (Nat.le_trans hwz hxz) (Nat.le_trans (Nat.le_trans hwz hxz) HB2.out.size)),HBX.out.trans (HB3.out.mono (Nat.le_trans hwz hxz))⟩)
    case rest =>
     obtain ⟨hi,hb⟩:=hcut
     have HI:=Lib.hid hi
     have HBZ:=Lib.hid hb
     clear hi hb
     go_wp2_with fail
     go_ret
     exact ⟨_,rfl,by rw [HR.out];exact HI.out,HBZ.out⟩
  ·have e2:(q==2)=false:=by rw [beq_eq_false_iff_ne];exact h2
   have HR:Hid (applyM R o=withoutM R o.fr):=by unfold Hid applyM;rw [if_neg (by rw [hq];exact h1),if_neg (by rw [hq];exact h2)]
   clear hq h1 h2
   go_wp2_with fail
   refine (rwithout_any F v R o.fr _ H.out HRL.out HF.out).mono ?_
   rintro e w1 ⟨v1,rfl,ho,hb⟩
   have HO:=Lib.hid ho
   have HB1:=Lib.hid hb
   clear ho hb
   go_wp2_with fail
   go_ret
   refine ⟨v1,rfl,?_,HB.out.trans (HB1.out.mono hwz)⟩
   rw [HR.out]
   exact HO.out.rin.mono (fun k _ hk=>hk.imp id (fun h=>by have:=h.1;omega))
end Go.Proofs.YtlkolcokjmlmjaaGreat.Tx
namespace Go.Proofs.YtlkolcokjmlmjaaGreat.Tx
open Go.RowKit Go.Proofs.YtlkolcokjmlmjaaGreat.Sh
structure Shape where
 α:Type
 cells:α→Value→List Value
 data:α→List UInt8
 m:Nat
 pos:0<m
 len:∀ a d,(cells a d).length=m
 one:∀ a d,d.oneCell'=true→∀ u∈cells a d,u.oneCell'=true
section
variable (K:Shape)
def ShC (l:List K.α) (ds:List Value):List Value:=(List.zipWith K.cells l ds).flatten
def InL (F:Nat→Prop) (w:World) (v:Value) (l:List K.α):Prop:=∃ ds,Rd F w K.m v l.length (ShC K l ds)∧Datas F w ds (l.map K.data)
def TmpL (F:Nat→Prop) (w:World) (v:Value) (l:List K.α):Prop:=∃ ds,Rd (fun _=>True) w K.m v l.length (ShC K l ds)∧Datas F w ds (l.map K.data)
def OwnL (T:TypeId) (F:Nat→Prop) (w:World) (B:Nat) (v:Value) (l:List K.α):Prop:=(∃ ds,w.ownsRow B T K.m v l.length (ShC K l ds)∧Datas F w ds (l.map K.data))∧∀ k,v.ownBlock=some k→¬ F k
end
section
variable {K:Shape} {F F' M:Nat→Prop} {w w':World} {v:Value} {l:List K.α} {T:TypeId} {B:Nat} {ds es:List Value}
theorem ShC_at {k:Nat} {a:K.α} {d:Value} (h1:l[k]?=some a) (h2:ds[k]?=some d) (j:Nat) (u:Value) (hu:(K.cells a d)[j]?=some u):(ShC K l ds)[k*K.m+j]?=some u:=by
 refine flat_at (m:=K.m) (fun x hx=>?_) k _ (zip_at h1 h2) j u hu
 obtain ⟨i,hi,e⟩:=List.getElem_of_mem hx
 rw [List.getElem_zipWith] at e
 rw [← e]
 exact K.len _ _
theorem ShC_app {l2:List K.α} (h:ds.length=l.length):ShC K (l++l2) (ds++es)=ShC K l ds++ShC K l2 es:=by
 unfold ShC
 rw [List.zipWith_append h.symm,List.flatten_append]
theorem ShC_one (hd:∀ d∈ds,d.oneCell'=true):∀ u∈ShC K l ds,u.oneCell'=true:=by
 intro u hu
 unfold ShC at hu
 obtain ⟨x,hx,hux⟩:=List.mem_flatten.1 hu
 obtain ⟨i,hi,e⟩:=List.getElem_of_mem hx
 rw [List.getElem_zipWith] at e
 rw [← e] at hux
 exact K.one _ _ (hd _ (List.getElem_mem _)) u hux
theorem ShC_length (h:ds.length=l.length):(ShC K l ds).length=l.length*K.m:=by
 unfold ShC
 rw [List.length_flatten]
 have:(List.zipWith K.cells l ds).map List.length=List.replicate l.length K.m:=by
  apply List.ext_getElem
  ·simp [h]
  ·intro i h1 h2
   simp [K.len]
 rw [this,List.sum_replicate_nat]
theorem InL.only (h:InL K F w v l) (ho:Only M w w') (hd:∀ k,F k→¬ M k):InL K F w' v l:=by
 obtain ⟨ds,h1,h2⟩:=h
 exact ⟨ds,h1.only ho hd,h2.only ho hd⟩
theorem InL.mono (h:InL K F w v l) (hF:∀ k,k<w.heap.size→F k→F' k):InL K F' w v l:=by
 obtain ⟨ds,h1,h2⟩:=h
 exact ⟨ds,h1.mono hF,h2.mono hF⟩
theorem InL.below (h:InL K F w v l) (hb:Below w.heap.size w w'):InL K F w' v l:=h.only (Only.of_below (M:=fun _=>False) hb) (fun _ _=>id)
theorem InL.nil_ (K:Shape) (F:Nat→Prop) (w:World):InL K F w (.slice none 0 0) []:=⟨[],Rd.nil_ F w K.m,Datas.nil_⟩
theorem InL.tmp (h:InL K F w v l):TmpL K F w v l:=by
 obtain ⟨ds,h1,h2⟩:=h
 exact ⟨ds,h1.mono (fun _ _ _=>trivial),h2⟩
theorem TmpL.slice (h:TmpL K F w v l):∃ A c,v=.slice A l.length c∧l.length≤c∧c≤maxLen:=by
 obtain ⟨ds,⟨A,c,h1,h2,h3,_⟩,_⟩:=h
 exact ⟨A,c,h1,h2,h3⟩
theorem TmpL.below (h:TmpL K F w v l) (hb:Below w.heap.size w w'):TmpL K F w' v l:=by
 obtain ⟨ds,h1,h2⟩:=h
 exact ⟨ds,h1.below hb,h2.only (Only.of_below (M:=fun _=>False) hb) (fun _ _=>id)⟩
theorem TmpL.drew (h:TmpL K F w v l):TmpL K F w.drew v l:=h
theorem OwnL.drew (h:OwnL K T F w B v l):OwnL K T F w.drew B v l:=h
theorem OwnL.tmp (h:OwnL K T F w B v l):TmpL K F w v l:=by
 obtain ⟨⟨ds,h1,h2⟩,_⟩:=h
 exact ⟨ds,Rd.of_own h1 (fun _ _=>trivial),h2⟩
theorem TmpL.at_ {A:Option Addr} {n c:Nat} (h:TmpL K F w (.slice A n c) l) (k:Nat) (a:K.α) (hk:l[k]?=some a) :
  ∃ (ad:Addr) (d:Value),A=some ad∧By F w d (K.data a)∧∀ j u,(K.cells a d)[j]?=some u→w.cell? (ad.add (k*K.m+j))=some u:=by
 obtain ⟨ds,⟨A',c',hv,_,_,_,_,h5⟩,hd⟩:=h
 injection hv with e1 e2 e3
 subst e1
 have hkl:=(List.getElem?_eq_some_iff.1 hk).1
 obtain ⟨ad,hA,_,_,hc⟩:=h5 (by omega)
 obtain ⟨d,hdk,hby⟩:=hd.at_ (i:=k) (bs:=K.data a) (by rw [List.getElem?_map,hk];rfl)
 exact ⟨ad,d,hA,hby,fun j u hu=>hc _ _ (ShC_at hk hdk j u hu)⟩
theorem OwnL.nil_ (K:Shape) (T:TypeId) (F:Nat→Prop) (w:World) (B:Nat):OwnL K T F w B (.slice none 0 0) []:=⟨⟨[],World.ownsRow_nil w B _ _,Datas.nil_⟩,fun k h=>by cases h⟩
theorem OwnL.rin (h:OwnL K T F w B v l):InL K (fun k=>F k∨(B≤k∧k<w.heap.size)) w v l:=by
 obtain ⟨⟨ds,h1,h2⟩,_⟩:=h
 exact ⟨ds,Rd.of_own h1 (fun k hk=>.inr (h1.lt k hk)),h2.mono (fun _ _ hk=>.inl hk)⟩
theorem OwnL.only (h:OwnL K T F w B v l) (ho:Only M w w') (hd:∀ k,F k→¬ M k) (hv:∀ k,v.ownBlock=some k→¬ M k):OwnL K T F w' B v l:=by
 obtain ⟨⟨ds,h1,h2⟩,h3⟩:=h
 refine ⟨⟨ds,?_,h2.only ho hd⟩,h3⟩
 refine ⟨h1.1,h1.2.imp id fun ⟨g,cap,cur,a1,a2,a3,a4⟩=>⟨g,cap,cur,a1,a2,?_,a4⟩⟩
 subst a1
 have hlt:g<w.heap.size:=(Array.getElem?_eq_some_iff.1 a3).1
 rw [ho.block g hlt (hv g rfl)]
 exact a3
theorem OwnL.mono (h:OwnL K T F w B v l) (hF:∀ k,k<w.heap.size→F k→F' k) (hn:∀ k,v.ownBlock=some k→¬ F' k):OwnL K T F' w B v l:=by
 obtain ⟨⟨ds,h1,h2⟩,_⟩:=h
 exact ⟨⟨ds,h1,h2.mono hF⟩,hn⟩
theorem OwnL.lt (h:OwnL K T F w B v l) (k:Nat) (hk:v.ownBlock=some k):B≤k∧k<w.heap.size:=by
 obtain ⟨⟨ds,h1,_⟩,_⟩:=h
 exact h1.lt k hk
theorem OwnL.alloc (h:OwnL K T F w B v l) (o:Obj):OwnL K T F (w.alloc o) B v l:=h.only ((Only.refl (fun _=>False) w).alloc o) (fun _ _=>id) (fun _ _=>id)
theorem TmpL.alloc (h:TmpL K F w v l) (o:Obj):TmpL K F (w.alloc o) v l:=h.below ((Below.refl _ _).alloc (Nat.le_refl _) o)
theorem TmpL.one {g:Nat} {a:K.α} {d:Value} {cs:Array Value} (hg:Blk w g T cs) (hcs:cs.toList=K.cells a d) (hd:By F w d (K.data a)):TmpL K F w (.slice (some ⟨g,0,none⟩) 1 1) [a]:=by
 refine ⟨[d],⟨some ⟨g,0,none⟩,1,rfl,Nat.le_refl _,by unfold maxLen;omega,?_,(fun e=>by cases e),fun _=>⟨_,rfl,trivial,hg.lt,fun j u hu=>?_⟩⟩,?_⟩
 ·simp [ShC,K.len]
 ·rw [Addr.add_mid,hg.cell,Nat.zero_add,← Array.getElem?_toList,hcs,← hu]
  simp [ShC]
 ·refine ⟨rfl,fun i e b h1 h2=>?_⟩
  have hi:i=0:=by have:=(List.getElem?_eq_some_iff.1 h1).1;simpa using this
  subst hi
  simp at h1 h2
  subst h1 h2
  exact hd
theorem OwnL.empty {g:Nat} (hg:Blk w g T #[]) (hB:B≤g) (hF:¬ F g):OwnL K T F w B (.slice (some ⟨g,0,none⟩) 0 0) [] :=
 ⟨⟨[],⟨by simp [ShC],.inr ⟨g,0,#[],rfl,hB,hg,Nat.le_refl _,by unfold maxLen;omega,by simp,by simp [ShC]⟩⟩,Datas.nil_⟩,fun k hk hf=>by
  have e:g=k:=by simpa [Value.ownBlock] using hk
  exact hF (by rw [e];exact hf)⟩
end
theorem step_enter {P:Program} {ops:Array Oper} {o:Oper} {a:Act} {w:World} {Kk:Act→World→Prop} {Q:Exit→Act→World→Prop} {E:Prop} (hgd:o.guard=none) (f:FuncId) (vs:Array Value) {R:Ending→World→Prop} (hrun:(execOp a.eval o).run P w=.ok (.enter f vs) w)
  (hc:Calls P f vs w R) (hR:∀ e w',R e w'→∃ v,e=.returned v∧Kk (a.put o.dst v) w'):if Region.wanted o (yielded ops a.tmps)=true then Oper.wp P o a w Kk Q else E:=by
 have hw:Region.wanted o (yielded ops a.tmps)=true:=by simp [Region.wanted,hgd]
 rw [if_pos hw]
 unfold Oper.wp
 rw [hrun,Oper.upon_enter]
 refine hc.mono ?_
 intro e w' h
 obtain ⟨v,rfl,hk⟩:=hR e w' h
 exact hk
structure Typed (P:Program) (K:Shape) (T S:TypeId) (z:Value) (bytes:Nat):Prop where
 info:(P.info? T).map (fun i=>(i.zero,i.size,i.bytes))=some (some z,K.m,bytes)
 under:P.underlying S=some (.slice T)
 cells:z.cells.size=K.m
 small:bytes≤256
section
variable {P:Program} {K:Shape} {T S:TypeId} {z:Value} {bytes:Nat} (D:Typed P K T S z bytes)
include D
theorem step_appendL {ops:Array Oper} {o:Oper} {a:Act} {Kk:Act→World→Prop} {Q:Exit→Act→World→Prop} {E:Prop} (hgd:o.guard=none) (s x:Operand)
  (ho:o.op=.call { callee:=.builtin .append,args:=#[s,x],argTypes:=#[S,S] }) {F:Nat→Prop} {w:World} {B:Nat} {v:Value} {l:List K.α} {ex:Value} {l2:List K.α} (hown:OwnL K T F w B v l) (hr:TmpL K F w ex l2) (hs:a.eval s=v) (hx:a.eval x=ex)
  (hsmall:l.length+l2.length≤2000000) (hB:B≤w.heap.size) (hF:∀ k,F k→k<w.heap.size)
  (h:∀ v' w',OwnL K T F w' B v' (l++l2)→w.grownBy w' v.ownBlock→(v'.ownBlock=v.ownBlock∨v'.ownBlock=some w.heap.size)→Kk (a.put o.dst v') w'):if Region.wanted o (yielded ops a.tmps)=true then Oper.wp P o a w Kk Q else E:=by
 obtain ⟨i0,hi,hz0,hz1,hz2⟩:=info_parts D.info
 obtain ⟨⟨ds,hown',hds⟩,hne⟩:=hown
 obtain ⟨es,hrd,hes⟩:=hr
 obtain ⟨A,c,rfl,h1,h2,hrr⟩:=hrd.reads
 have hsm:=D.small
 refine step_append_any w hgd s x S ho B T i0 z K.m bytes D.under hi hz0 hz1 hz2 D.cells K.pos v l.length _ hs hown' w.heap.size A l2.length c _ hx hrr (ShC_one hes.one) (by unfold maxLen;omega) (Nat.le_trans (Nat.mul_le_mul hsmall hsm) (by decide)) hB ?_
 intro v' w' g1 g2 g3
 have ho:Only (fun k=>v.ownBlock=some k) w w':=⟨g2.os,g2.tape,g2.output,g2.size,fun k hk hn=>g2.block k hk (fun e=>hn e.symm)⟩
 refine h v' w' ⟨⟨ds++es,?_,?_⟩,fun k hk=>?_⟩ g2 g3
 ·rw [List.length_append,ShC_app (by rw [hds.1];simp)]
  exact g1
 ·rw [List.map_append]
  exact (hds.only ho (fun k hk he=>hne k he hk)).app (hes.only ho (fun k hk he=>hne k he hk))
 ·rcases g3 with g3 | g3
  ·exact hne k (by rw [← g3];exact hk)
  ·rw [g3] at hk
   injection hk with hk
   intro hf
   have:=hF k hf
   omega
theorem list_appendL {ops:Array Oper} {rest:List Oper} {o:Oper} {a:Act} {Q:Exit→Act→World→Prop} (hgd:o.guard=none) (s x:Operand)
  (ho:o.op=.call { callee:=.builtin .append,args:=#[s,x],argTypes:=#[S,S] }) {F:Nat→Prop} {w:World} {B:Nat} {v:Value} {l:List K.α} {ex:Value} {l2:List K.α} (hown:OwnL K T F w B v l) (hr:TmpL K F w ex l2) (hs:a.eval s=v) (hx:a.eval x=ex)
  (hsmall:l.length+l2.length≤2000000) (hB:B≤w.heap.size) (hF:∀ k,F k→k<w.heap.size)
  (h:∀ v' w',OwnL K T F w' B v' (l++l2)→w.grownBy w' v.ownBlock→(v'.ownBlock=v.ownBlock∨v'.ownBlock=some w.heap.size)→wpList P ops Q rest (a.put o.dst v') w'):wpList P ops Q (o::rest) a w:=by
 obtain ⟨i0,hi,hz0,hz1,hz2⟩:=info_parts D.info
 obtain ⟨⟨ds,hown',hds⟩,hne⟩:=hown
 obtain ⟨es,hrd,hes⟩:=hr
 obtain ⟨A,c,rfl,h1,h2,hrr⟩:=hrd.reads
 have hsm:=D.small
 refine wpList_append_any w hgd s x S ho B T i0 z K.m bytes D.under hi hz0 hz1 hz2 D.cells K.pos v l.length _ hs hown' w.heap.size A l2.length c _ hx hrr (ShC_one hes.one) (by unfold maxLen;omega) (Nat.le_trans (Nat.mul_le_mul hsmall hsm) (by decide)) hB ?_
 intro v' w' g1 g2 g3
 have ho:Only (fun k=>v.ownBlock=some k) w w':=⟨g2.os,g2.tape,g2.output,g2.size,fun k hk hn=>g2.block k hk (fun e=>hn e.symm)⟩
 refine h v' w' ⟨⟨ds++es,?_,?_⟩,fun k hk=>?_⟩ g2 g3
 ·rw [List.length_append,ShC_app (by rw [hds.1];simp)]
  exact g1
 ·rw [List.map_append]
  exact (hds.only ho (fun k hk he=>hne k he hk)).app (hes.only ho (fun k hk he=>hne k he hk))
 ·rcases g3 with g3 | g3
  ·exact hne k (by rw [← g3];exact hk)
  ·rw [g3] at hk
   injection hk with hk
   intro hf
   have:=hF k hf
   omega
end
end Go.Proofs.YtlkolcokjmlmjaaGreat.Tx
namespace Go.Proofs.YtlkolcokjmlmjaaGreat.Tx
def changeM (st:FSM) (o:OpM):FSM :=
 let o':OpM:=if o.kind=1 then { o with f:={ o.f with time:=st.time+1 } } else o
 { st with time:=st.time+1,now:=applyM st.now o',pending:=st.pending++[o'] }
def safeM (st:FSM):FSM:={ st with sure:=st.now,pending:=[] }
def oldM (R:List RowM) (p:List UInt8):Nat:=match findM R p with
 | none=>0
 | some i=>match R[i]? with
  | none=>0
  | some r=>r.f.data.length
def putE (st:FSM) (p:List UInt8) (mode:Int) (data:List UInt8) (only full:Bool) (room:Int):Int :=
 if pathB p=false then 6
 else if mode<1∨3<mode then 1
 else if 20000<data.length then 3
 else if (findM st.now p).isSome=true∧only=true then 8
 else if (findM st.now p).isNone=true∧mayM st.now p=false then 9
 else if full=true∨room<(usedM st.now:Int) - oldM st.now p+data.length then 10
 else 0
def putM (st:FSM) (p:List UInt8) (mode:Int) (data:List UInt8) (only full:Bool) (room:Int):FSM :=
 if putE st p mode data only full room=0 then changeM st ⟨1,[],p,⟨mode,data,0⟩⟩ else st
def dropE (st:FSM) (p:List UInt8):Int:=if pathB p=false then 6 else if (findM st.now p).isNone=true then 7 else 0
def dropM (st:FSM) (p:List UInt8):FSM:=if dropE st p=0 then changeM st ⟨3,p,[],⟨0,[],0⟩⟩ else st
def userWE (st:FSM) (p:List UInt8) (mode:Int) (data:List UInt8):Int:=if st.down=true then 12 else putE st p mode data false false 1152921504606846976
def userWM (st:FSM) (p:List UInt8) (mode:Int) (data:List UInt8):FSM :=
 if userWE st p mode data=0 then
  let s:=safeM (putM st p mode data false false 1152921504606846976)
  { s with user:=s.user++[⟨s.calls,4,mode,0,0,p,data⟩] }
 else st
def userRE (st:FSM) (p:List UInt8):Int:=if st.down=true then 12 else dropE st p
def userRM (st:FSM) (p:List UInt8):FSM :=
 if userRE st p=0 then
  let s:=safeM (dropM st p)
  { s with user:=s.user++[⟨s.calls,5,0,0,0,p,[]⟩] }
 else st
def againM (st:FSM) (n:Nat):List RowM:=(st.pending.take n).foldl applyM st.sure
def crashM (st:FSM) (keep torn:Int):FSM :=
 if st.down=true then st
 else
  let n:=(min (max keep 0) (st.pending.length:Int)).toNat
  let l:=againM st n
  let l2:=match st.pending[n]? with
   | none=>l
   | some o=>if o.kind=1∧0≤torn∧torn<(o.f.data.length:Int) then applyM l { o with f:={ o.f with data:=o.f.data.take torn.toNat } } else l
  { safeM { st with now:=l2 } with down:=true }
end Go.Proofs.YtlkolcokjmlmjaaGreat.Tx
namespace Go.Proofs.YtlkolcokjmlmjaaGreat.Tx
open Go.RowKit Go.Proofs.YtlkolcokjmlmjaaGreat.Sh
def opK:Shape where
 α:=OpM
 cells:=fun o d=>[.int .i64 o.kind,.string (str o.fr),.string (str o.to),.int .i64 o.f.mode,d,.int .i64 o.f.time]
 data:=fun o=>o.f.data
 m:=6
 pos:=by decide
 len:=fun _ _=>rfl
 one:=fun a d hd u hu=>by
  simp only [List.mem_cons,List.not_mem_nil,or_false] at hu
  rcases hu with rfl | rfl | rfl | rfl | rfl | rfl <;> first | rfl | exact hd
def evK:Shape where
 α:=EvM
 cells:=fun e d=>[.int .i64 e.at_,.int .i64 e.kind,.int .i64 e.mode,.int .i64 e.keep,.int .i64 e.torn,.string (str e.path),d]
 data:=fun e=>e.data
 m:=7
 pos:=by decide
 len:=fun _ _=>rfl
 one:=fun a d hd u hu=>by
  simp only [List.mem_cons,List.not_mem_nil,or_false] at hu
  rcases hu with rfl | rfl | rfl | rfl | rfl | rfl | rfl <;> first | rfl | exact hd
theorem typed_op:Typed Tryz.prog opK 136 70 (.agg #[.int .i64 0,.string ⟨#[]⟩,.string ⟨#[]⟩,.int .i64 0,.slice none 0 0,.int .i64 0]) 80:=⟨by kernel_rfl,Tryz.underlying70,rfl,by decide⟩
theorem typed_ev:Typed Tryz.prog evK 110 71 (.agg #[.int .i64 0,.int .i64 0,.int .i64 0,.int .i64 0,.int .i64 0,.string ⟨#[]⟩,.slice none 0 0]) 80:=⟨by kernel_rfl,Tryz.underlying71,rfl,by decide⟩
structure FsV where
 now:Value
 sure:Value
 pending:Value
 plan:Value
 user:Value
def fsC (st:FSM) (x:FsV):Array Value:=#[.int .i64 st.room,x.now,x.sure,x.pending,x.plan,.int .i64 st.calls,.int .i64 st.time,.bool st.down,x.user]
def fsM (b:Nat) (x:FsV):Nat→Prop:=fun k=>k=b∨x.pending.ownBlock=some k∨x.user.ownBlock=some k
structure RefX (F:Nat→Prop) (w:World) (b:Nat) (st:FSM) (x:FsV):Prop where
 blk:Blk w b 73 (fsC st x)
 now:RowsIn F w x.now st.now
 sure:RowsIn F w x.sure st.sure
 pending:OwnL opK 136 F w 0 x.pending st.pending
 plan:InL evK F w x.plan st.plan
 user:OwnL evK 110 F w 0 x.user st.user
 self:¬ F b
 low:∀ k,F k→k<w.heap.size
theorem RefX.apart {F:Nat→Prop} {w:World} {b:Nat} {st:FSM} {x:FsV} (h:RefX F w b st x) (k:Nat) (hk:F k):¬ fsM b x k:=by
 rintro (rfl | e | e)
 ·exact h.self hk
 ·exact h.pending.2 k e hk
 ·exact h.user.2 k e hk
theorem RefX.p_ne {F:Nat→Prop} {w:World} {b:Nat} {st:FSM} {x:FsV} (h:RefX F w b st x):x.pending.ownBlock≠some b:=by
 obtain ⟨⟨ds,h1,_⟩,_⟩:=h.pending
 exact own_blk_ne h1 h.blk (by decide)
theorem RefX.u_ne {F:Nat→Prop} {w:World} {b:Nat} {st:FSM} {x:FsV} (h:RefX F w b st x):x.user.ownBlock≠some b:=by
 obtain ⟨⟨ds,h1,_⟩,_⟩:=h.user
 exact own_blk_ne h1 h.blk (by decide)
theorem owns_unlike {w:World} {E E':TypeId} {B B' m m' n n':Nat} {v v':Value} {xs xs':List Value} (h:w.ownsRow B E m v n xs) (h':w.ownsRow B' E' m' v' n' xs') (hne:E≠E') (k:Nat) (hk:v.ownBlock=some k):v'.ownBlock≠some k:=by
 rcases h.2 with ⟨rfl,_⟩ | ⟨g,c,cur,rfl,_,hg,_⟩
 ·cases hk
 ·have e:g=k:=by simpa [Value.ownBlock] using hk
  subst e
  exact own_blk_ne h' (show Blk w g E cur from hg) (fun e=>hne e.symm)
theorem RefX.pu_ne {F:Nat→Prop} {w:World} {b:Nat} {st:FSM} {x:FsV} (h:RefX F w b st x) (k:Nat) (hk:x.pending.ownBlock=some k):x.user.ownBlock≠some k:=by
 obtain ⟨⟨ds,h1,_⟩,_⟩:=h.pending
 obtain ⟨⟨es,h2,_⟩,_⟩:=h.user
 exact owns_unlike h1 h2 (by decide) k hk
theorem RefX.only {F M:Nat→Prop} {w w':World} {b:Nat} {st:FSM} {x:FsV} (h:RefX F w b st x) (ho:Only M w w') (hF:∀ k,F k→¬ M k) (hM:∀ k,fsM b x k→¬ M k):RefX F w' b st x :=
 ⟨ho.blk h.blk (hM b (.inl rfl)),h.now.only ho hF,h.sure.only ho hF,h.pending.only ho hF (fun k hk=>hM k (.inr (.inl hk))),h.plan.only ho hF,h.user.only ho hF (fun k hk=>hM k (.inr (.inr hk))),h.self,fun k hk=>Nat.lt_of_lt_of_le (h.low k hk) ho.size⟩
theorem RefX.below {F:Nat→Prop} {w w':World} {b:Nat} {st:FSM} {x:FsV} (h:RefX F w b st x) (hb:Below w.heap.size w w'):RefX F w' b st x:=h.only (Only.of_below (M:=fun _=>False) hb) (fun _ _=>id) (fun _ _=>id)
theorem RefX.lt {F:Nat→Prop} {w:World} {b:Nat} {st:FSM} {x:FsV} (h:RefX F w b st x) (k:Nat) (hk:fsM b x k):k<w.heap.size:=by
 rcases hk with rfl | e | e
 ·exact h.blk.lt
 ·exact (h.pending.lt k e).2
 ·exact (h.user.lt k e).2
theorem RefX.mono {F F':Nat→Prop} {w:World} {b:Nat} {st:FSM} {x:FsV} (h:RefX F w b st x) (hF:∀ k,F k→F' k) (hn:∀ k,F' k→¬ fsM b x k) (hl:∀ k,F' k→k<w.heap.size):RefX F' w b st x :=
 ⟨h.blk,h.now.mono (fun k _=>hF k),h.sure.mono (fun k _=>hF k),h.pending.mono (fun k _=>hF k) (fun k hk hf=>hn k hf (.inr (.inl hk))),h.plan.mono (fun k _=>hF k),h.user.mono (fun k _=>hF k) (fun k hk hf=>hn k hf (.inr (.inr hk))),fun hf=>hn b hf (.inl rfl),hl⟩
def RefAt (F:Nat→Prop) (w:World) (b:Nat) (st:FSM) (M:Nat→Prop):Prop:=∃ x,RefX F w b st x∧∀ k,M k↔fsM b x k
def FsPost (F M:Nat→Prop) (w:World) (b:Nat) (st':FSM) (w':World):Prop:=∃ M',RefAt (grow F w w' M') w' b st' M'∧Only M w w'∧∀ k,M' k→M k∨w.heap.size≤k
theorem FsPost.refl {F M:Nat→Prop} {w:World} {b:Nat} {st:FSM} (h:RefAt F w b st M):FsPost F M w b st w:=by
 obtain ⟨x,h1,h2⟩:=h
 refine ⟨M,⟨x,h1.mono (fun k hk=>.inl hk) (fun k hk=>?_) (fun k hk=>?_),h2⟩,Only.refl M w,fun k hk=>.inl hk⟩
 ·rcases hk with hk | ⟨g1,g2,_⟩
  ·exact h1.apart k hk
  ·omega
 ·rcases hk with hk | ⟨g1,g2,_⟩
  ·exact h1.low k hk
  ·omega
theorem FsPost.trans {F M:Nat→Prop} {w w1 w2:World} {b:Nat} {st2:FSM} {M1:Nat→Prop} (h01:Only M w w1) (hM:∀ k,M1 k→M k∨w.heap.size≤k) (h:FsPost (grow F w w1 M1) M1 w1 b st2 w2):FsPost F M w b st2 w2:=by
 obtain ⟨M2,⟨x,h1,h2⟩,h3,h4⟩:=h
 have hM2:∀ k,M2 k→M k∨w.heap.size≤k:=fun k hk=>by
  rcases h4 k hk with h5 | h5
  ·exact hM k h5
  ·have:=h01.size;right;omega
 refine ⟨M2,⟨x,h1.mono (F':=grow F w w2 M2) (fun k hk=>grow_grow h3.size h01.size h4 hk) (fun k hk hm=>?_) (fun k hk=>?_),h2⟩,h01.trans h3 hM,hM2⟩
 ·rcases hk with hk | ⟨_,_,g3⟩
  ·exact h1.apart k (.inl (.inl hk)) hm
  ·exact g3 ((h2 k).2 hm)
 ·rcases hk with hk | ⟨_,g2,_⟩
  ·exact h1.low k (.inl (.inl hk))
  ·exact g2
end Go.Proofs.YtlkolcokjmlmjaaGreat.Tx
