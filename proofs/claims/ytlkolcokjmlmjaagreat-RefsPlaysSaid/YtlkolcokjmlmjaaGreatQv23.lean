/- Texts put together: VGs19, VFx22, VGd0, VGd1, VShP0, VShW0. -/
import Derived.Test.YtlkolcokjmlmjaaGreatQv22
import Derived.Test.YtlkolcokjmlmjaaGreatQv18
import Derived.Test.YtlkolcokjmlmjaaGreatRows
import Derived.Test.YtlkolcokjmlmjaaGreatQv01
import Derived.WalkKit
import Derived.ProofKit
import Derived.OpenShut
import Derived.BigQuiet
import Derived.Deep.QuietTactic
import Derived.Lib.Hide
import Derived.Deep.RegionWith
import Derived.StillTailTactics
import Derived.Deep.DeepFit
import Derived.Deep.WholeRow
import Derived.Deep.MidRow
import Derived.Deep.AppendLies
import Derived.Deep.Draws
import Derived.Maps.AppendAt
import Derived.Deep.RegionHeld3
import Derived.Deep.OwnRows
import Derived.Lib.SlBytesConst
namespace Go.Proofs.YtlkolcokjmlmjaaGreat.Tx
open Go.RowKit Go.Maps Go.Proofs.YtlkolcokjmlmjaaGreat.Sh
def lisE (c:CSt) (dir:List UInt8):Int:=if bgE c=0 then (if dir≠[]∧pathB dir=false then 6 else 0) else bgE c
def lisO (c:CSt) (dir:List UInt8):List (List UInt8):=if lisE c dir=0 then listC (bgC c).c.here dir else []
def LisPost (F M:Nat→Prop) (w:World) (b:Nat) (s:CSt) (n:Int) (l:List (List UInt8)) (e:Ending) (w':World):Prop :=
 ∃ v w1,e=.returned (.tuple #[v,.int .i64 n])∧FcPost F M w b s w1∧Below w1.heap.size w1 w'∧OwnV 9 w' w1.heap.size v ((l.map str).map sv)
set_option maxRecDepth 100000 in
set_option maxHeartbeats 3200000 in
theorem list_any (F M : Nat → Prop) (b : Nat) (c : CSt) (N : Nat) (dir : List UInt8) (w : World) (h : FcAt F w b c M) (hr : CReady c N) (hd : dir.length ≤ 900000) :
  Calls Tryz.prog 54 #[.pointer (some ⟨b,0,none⟩),.string (str dir)] w (LisPost F M w b (bgC c).c (lisE c dir) (lisO c dir)):=by
 have H:=Lib.hid h
 have HR:=Lib.hid hr
 obtain ⟨be,hbe⟩:∃ be,bgE c=be:=⟨_,rfl⟩
 have HBE:=Lib.hid hbe
 obtain ⟨rm,hrm⟩:∃ rm,(bgC c).room=rm:=⟨_,rfl⟩
 have HRM:=Lib.hid hrm
 obtain ⟨s,hs⟩:∃ s,(bgC c).c=s:=⟨_,rfl⟩
 have HSS:=Lib.hid hs
 have HSM:=Lib.hid hr.small
 obtain ⟨tp,htp⟩:∃ t,pathB dir=t:=⟨_,rfl⟩
 have HTP:=Lib.hid htp
 clear h hr hbe hrm hs htp
 rw [HSS.out]
 go_enter Tryz.func54,Tryz.ntmps54
 go_wp2_with fail
 refine (begin_any F M b c N _ H.out HR.out.fits HR.out.big HR.out.calls HR.out.paths).mono ?_
 rintro e w1 ⟨rfl,hpost⟩
 rw [HBE.out,HRM.out]
 rw [HSS.out] at hpost HSM
 have HP1:=Lib.hid hpost
 obtain ⟨M1,hat,hon,hsub⟩:=hpost
 have HAT:=Lib.hid hat
 clear hat hon hsub
 have HLP:Hid (∀ w',Below w1.heap.size w1 w'→FcAt (grow F w w1 M1) w' b s M1):=fun w' hb=>HAT.out.below hb
 have HTREE:Hid (∀ w',Below w1.heap.size w1 w'→∃ t,w'.cell? ⟨b,6,none⟩=some (.pointer (some ⟨t,0,none⟩))∧Calls Tryz.prog 104 #[.pointer (some ⟨t,0,none⟩),.string (str dir)] w' (TextsPost w' ((listC s.here dir).map str))):=fun w' hb=>by
  obtain ⟨x,hX,_⟩:=HAT.out.below hb
  exact ⟨x.here,hX.blk.cell 6,tpaths_any _ x.here x.hf x.hu s.here dir w' hX.here (by have:=HSM.out.here;omega) hd⟩
 by_cases hb0:be=0
 ·subst hb0
  by_cases hde:dir=[]
  ·have HE : Hid (lisE c dir = 0 ∧ lisO c dir = listC s.here dir) := by
    have h1:lisE c dir=0:=by unfold lisE;rw [if_pos HBE.out,if_neg (fun h=>h.1 hde)]
    exact ⟨h1,by unfold lisO;rw [h1,if_pos rfl,HSS.out]⟩
   obtain ⟨z2,z3⟩:=str_nil hde
   obtain ⟨t,c6,hpaths⟩:=HTREE.out w1 (Below.refl _ _)
   have HPA:=Lib.hid hpaths
   clear hde hpaths
   go_wp2_with fail
   refine HPA.out.mono ?_
   rintro e w2 ⟨v,rfl,ho,hb⟩
   have HO:=Lib.hid ho
   have HB:=Lib.hid hb
   clear ho hb
   go_wp2_with fail
   go_ret2
   refine ⟨v,w1,by rw [HE.out.1];rfl,HP1.out,HB.out,by rw [HE.out.2];exact HO.out⟩
  ·have HDE:=Lib.hid hde
   obtain ⟨z2,z3⟩:=str_some hde
   clear hde
   go_wp2_with fail
   refine (npath_any dir _ (by omega)).mono ?_
   rintro e w2 ⟨rfl,hb2⟩
   rw [HTP.out]
   have HB2:=Lib.hid hb2
   clear hb2
   cases tp with
   | false =>
    have HE:Hid (lisE c dir=6∧lisO c dir=[]):=by
     have h1:lisE c dir=6:=by unfold lisE;rw [if_pos HBE.out,if_pos ⟨HDE.out,HTP.out⟩]
     exact ⟨h1,by unfold lisO;rw [h1,if_neg (by decide)]⟩
    go_wp2_with fail
    go_ret2
    refine ⟨_,w1,by rw [HE.out.1];rfl,HP1.out,HB2.out,by rw [HE.out.2];exact OwnV.nil_ _ _⟩
   | true =>
    have HE:Hid (lisE c dir=0∧lisO c dir=listC s.here dir):=by
     have h1:lisE c dir=0:=by unfold lisE;rw [if_pos HBE.out,if_neg (fun h=>by rw [HTP.out] at h;exact absurd h.2 (by decide))]
     exact ⟨h1,by unfold lisO;rw [h1,if_pos rfl,HSS.out]⟩
    obtain ⟨t,c6,hpaths⟩:=HTREE.out w2 HB2.out
    have HPA:=Lib.hid hpaths
    clear hpaths
    go_wp2_with fail
    refine HPA.out.mono ?_
    rintro e w3 ⟨v,rfl,ho,hb⟩
    have HO:=Lib.hid ho
    have HB:=Lib.hid hb
    clear ho hb
    go_wp2_with fail
    go_ret2
    refine ⟨v,w1,by rw [HE.out.1];rfl,HP1.out,HB2.out.trans (HB.out.mono HB2.out.size),by rw [HE.out.2];exact HO.out.base HB2.out.size⟩
 ·have e1:(be==0)=false:=by rw [beq_eq_false_iff_ne];exact hb0
  have HE:Hid (lisE c dir=be∧lisO c dir=[]):=by
   have h1:lisE c dir=be:=by unfold lisE;rw [HBE.out,if_neg hb0]
   exact ⟨h1,by unfold lisO;rw [h1,if_neg hb0]⟩
  clear hb0
  go_wp2_with fail
  go_ret2
  refine ⟨_,w1,by rw [HE.out.1];rfl,HP1.out,Below.refl _ _,by rw [HE.out.2];exact OwnV.nil_ _ _⟩
end Go.Proofs.YtlkolcokjmlmjaaGreat.Tx
namespace Go.Proofs.YtlkolcokjmlmjaaGreat.Tx
open Go.RowKit Go.Proofs.YtlkolcokjmlmjaaGreat.Sh
def planR (c:Int) (l:List EvM):List EvM:=l.filter fun e=>decide (c<e.at_)
def planM (st:FSM) (l:List EvM):FSM:={ st with plan:=planR st.calls l }
theorem plan_yes {c:Int} {l:List EvM} {k:Nat} {e:EvM} (h:l[k]?=some e) (hb:c<e.at_):planR c (l.take (k+1))=planR c (l.take k)++[e]:=by
 obtain ⟨hl,he⟩:=List.getElem?_eq_some_iff.1 h
 unfold planR
 rw [List.take_succ_eq_append_getElem hl,List.filter_append,he]
 simp [hb]
theorem plan_no {c:Int} {l:List EvM} {k:Nat} {e:EvM} (h:l[k]?=some e) (hb:¬ c<e.at_):planR c (l.take (k+1))=planR c (l.take k):=by
 obtain ⟨hl,he⟩:=List.getElem?_eq_some_iff.1 h
 unfold planR
 rw [List.take_succ_eq_append_getElem hl,List.filter_append,he]
 simp [hb]
theorem plan_len (c:Int) (l:List EvM) (k:Nat):(planR c (l.take k)).length≤k:=by
 unfold planR
 exact Nat.le_trans (List.length_filter_le _ _) (by rw [List.length_take];omega)
theorem plan_step {F : Nat → Prop} {w wa w5 : World} {b : Nat} {st : FSM} {x : FsV} {pv v5 : Value} {l : List EvM} (hX : RefX F w b st x) (hg : wa.grownBy w5 pv.ownBlock) (hna : Only (fun k => k = b) w wa) (hp : ∀ k, pv.ownBlock = some k → w.heap.size ≤ k)
  (hb:Blk w5 b 73 (fsC st { x with plan:=pv })) (ho:OwnL evK 110 F w5 w.heap.size v5 l) :
  Blk (w5.setCell ⟨b,4,none⟩ v5) b 73 (fsC st { x with plan:=v5 })∧OwnL evK 110 F (w5.setCell ⟨b,4,none⟩ v5) w.heap.size v5 l∧Only (fun k=>k=b) w (w5.setCell ⟨b,4,none⟩ v5):=by
 have hblt:=hX.blk.lt
 have o5:Only (fun k=>k=b) w w5:=hna.trans (M':=fun k=>pv.ownBlock=some k) ⟨hg.os,hg.tape,hg.output,hg.size,fun k hk hn=>hg.block k hk (fun e=>hn e.symm)⟩ (fun k hk=>.inr (hp k hk))
 have os:Only (fun k=>k=b) w5 (w5.setCell ⟨b,4,none⟩ v5):=Only.set_ (M:=fun k=>k=b) (g:=b) (i:=4) (Only.refl _ w5) (.inl rfl) v5
 exact ⟨hb.set_ 4 v5,ho.only os (fun k hk e=>hX.self (by rw [← e];exact hk)) (fun k hk e=>by have:=(ho.lt k hk).1;omega),Only.set_ (M:=fun k=>k=b) (g:=b) (i:=4) o5 (.inl rfl) v5⟩
theorem plan_fin {F M : Nat → Prop} {w w' : World} {b : Nat} {st : FSM} {x : FsV} {pv : Value} {l : List EvM} (hX : RefX F w b st x) (hM : ∀ k, M k ↔ fsM b x k) (ob : Only (fun k => k = b) w w') (hb : Blk w' b 73 (fsC st { x with plan := pv }))
  (ho:OwnL evK 110 F w' w.heap.size pv l):FsPost F M w b { st with plan:=l } w':=by
 have hFb:∀ k,F k→¬ (k=b):=fun k hk e=>hX.self (by rw [← e];exact hk)
 have hun:∀ k,x.user.ownBlock=some k→¬ (k=b):=fun k hk e=>hX.u_ne (by rw [hk,e])
 have hpn:∀ k,x.pending.ownBlock=some k→¬ (k=b):=fun k hk e=>hX.p_ne (by rw [hk,e])
 refine fs_fin (x':={ x with plan:=pv }) hX hM (ob.more (fun k _ h=>.inl h)) (fun k h=>.inl h) hb ((hX.now.only ob hFb).mono (fun k _ hk=>.inl hk)) ((hX.sure.only ob hFb).mono (fun k _ hk=>.inl hk)) ((hX.pending.only ob hFb hpn).toG (fun k _ hk=>.inl hk) (fun k hk=>.inr (.inl hk)) hX.pending.2) ?_ ((hX.user.only ob hFb hun).toG (fun k _ hk=>.inl hk) (fun k hk=>.inr (.inr hk)) hX.user.2)
 refine ho.rin.mono (fun k hk hf=>?_)
 rcases hf with hf | hf
 ·exact .inl hf
 ·exact .inr ⟨hf.1,hk,fun hm=>by have:=hX.lt k hm;omega⟩
set_option maxRecDepth 100000 in
set_option maxHeartbeats 6400000 in
theorem rplan_any (F M : Nat → Prop) (b : Nat) (st : FSM) (lv : Value) (l : List EvM) (w : World) (h : RefAt F w b st M) (hl : InL evK F w lv l) (hn : l.length ≤ 1000000) :
  Calls Tryz.prog 64 #[.pointer (some ⟨b,0,none⟩),lv] w fun e w'=>e=.returned (.tuple #[])∧FsPost F M w b (planM st l) w':=by
 obtain ⟨x,hX,hM⟩:=h
 have HX:=Lib.hid hX
 have HMM:=Lib.hid hM
 have HL:=Lib.hid hl
 have hblt:=hX.blk.lt
 have c4:w.cell? ⟨b,4,none⟩=some x.plan:=hX.blk.cell 4
 have c4f:w.frozen? ⟨b,4,none⟩=false:=hX.blk.frozen 4
 obtain ⟨LA,lc,hLA,hl1,hl2⟩:=hl.tmp.slice
 obtain ⟨ln,hln⟩:∃ ln,l.length=ln:=⟨_,rfl⟩
 have hLA':lv=.slice LA ln lc:=by rw [← hln];exact hLA
 have hl1':ln≤lc:=by rw [← hln];exact hl1
 subst hLA'
 rw [hln] at hn
 unfold maxLen at hl2
 have HLN:=Lib.hid hln
 obtain ⟨cl,hcl⟩:∃ cl,st.calls=cl:=⟨_,rfl⟩
 have HCL:=Lib.hid hcl
 have HFb:Hid (∀ k,F k→¬ (k=b)):=fun k hk e=>hX.self (by rw [← e];exact hk)
 have HK0:Hid (Blk (w.setCell ⟨b,4,none⟩ (.slice none 0 0)) b 73 (fsC st { x with plan:=.slice none 0 0 })):=hX.blk.set_ 4 (.slice none 0 0)
 have HO0:Hid (Only (fun k=>k=b) w (w.setCell ⟨b,4,none⟩ (.slice none 0 0))):=Only.set_ (M:=fun k=>k=b) (g:=b) (i:=4) (Only.refl _ w) (.inl rfl) _
 clear hX hM hl hLA hl1 hln hcl
 go_enter Tryz.func64,Tryz.ntmps64
 go_wp2_with fail
 generalize w.setCell ⟨b,4,none⟩ (.slice none 0 0)=w0 at *
 go_loopw [4] (fun i wr=>∃ (k:Nat) (pv:Value),k≤ln∧i=.int .i64 k∧Blk wr b 73 (fsC st { x with plan:=pv })∧OwnL evK 110 F wr w.heap.size pv (planR cl (l.take k))∧Only (fun k=>k=b) w wr) (fun i _=>ln - (intOf i).toNat)
 case atStart=>exact ⟨0,_,Nat.zero_le _,rfl,HK0.out,OwnL.nil_ _ _ _ _ _,HO0.out⟩
 case round =>
  obtain ⟨k,pv,hk,rfl,hb,ho,hon⟩:=hrel
  have HB:=Lib.hid hb
  have HO:=Lib.hid ho
  have HON:=Lib.hid hon
  have k0:(0:Int)≤(k:Int):=by omega
  by_cases hlt:k<ln
  ·have k1:(k:Int)<(ln:Int):=by omega
   obtain ⟨e,he⟩:∃ e,l[k]?=some e:=⟨_,List.getElem?_eq_getElem (by rw [HLN.out];omega)⟩
   have hev:EvsTmp F wr (.slice LA ln lc) l:=(HL.out.only hon HFb.out).tmp
   obtain ⟨ad,dA,dc,rfl,hby,x0,x1,x2,x3,x4,x5,x6⟩:=ev_cells hev k e he
   have y5:wr.cell? ⟨b,5,none⟩=some (.int .i64 cl):=by rw [← HCL.out];exact hb.cell 5
   have y4:wr.cell? ⟨b,4,none⟩=some pv:=hb.cell 4
   have y4f:wr.frozen? ⟨b,4,none⟩=false:=hb.frozen 4
   have HE:=Lib.hid he
   have HBY:=Lib.hid hby
   clear he hev hby hb ho hon
   by_cases hgt:cl<e.at_
   ·have HNX:=Lib.hid (plan_yes HE.out hgt)
    go_upto_region 4 with (fail)
    go_quiet (fail)
    obtain ⟨wq,hwq⟩:∃ wq,wq=wr.drewN nq:=⟨_,rfl⟩
    rw [← hwq]
    have hbq:Blk wq b 73 (fsC st { x with plan:=pv }):=by rw [hwq];exact HB.out
    have hoq:OwnL evK 110 F wq w.heap.size pv (planR cl (l.take k)):=by rw [hwq];exact HO.out
    have hnq:Only (fun k=>k=b) w wq:=by rw [hwq];exact HON.out.drewN _
    have hevq:EvsTmp F wq (.slice (some ad) ln lc) l:=(HL.out.only hnq HFb.out).tmp
    clear hwq x0 x1 x2 x3 x4 x5 x6 y4 y4f y5 HBY
    clear dA dc
    obtain ⟨ad',dA,dc,hA',hyq,x0,x1,x2,x3,x4,x5,x6⟩:=ev_cells hevq k e HE.out
    injection hA' with hA'
    subst hA'
    have y4:wq.cell? ⟨b,4,none⟩=some pv:=hbq.cell 4
    have y4f:wq.frozen? ⟨b,4,none⟩=false:=hbq.frozen 4
    have y4a:(wq.alloc (.cells #[.int .i64 e.at_,.int .i64 e.kind,.int .i64 e.mode,.int .i64 e.keep,.int .i64 e.torn,.string (str e.path),.slice dA e.data.length dc] 110)).cell? ⟨b,4,none⟩=some pv:=(hbq.alloc _).cell 4
    have hz1:=hnq.size
    have hsa:wq.heap.size≤(wq.alloc (.cells #[.int .i64 e.at_,.int .i64 e.kind,.int .i64 e.mode,.int .i64 e.keep,.int .i64 e.torn,.string (str e.path),.slice dA e.data.length dc] 110)).heap.size:=((Below.refl wq.heap.size wq).alloc (Nat.le_refl _) _).size
    have HPA:=Lib.hid (hoq.alloc (.cells #[.int .i64 e.at_,.int .i64 e.kind,.int .i64 e.mode,.int .i64 e.keep,.int .i64 e.torn,.string (str e.path),.slice dA e.data.length dc] 110))
    have HLA:=Lib.hid (TmpL.one (K:=evK) (F:=F) (a:=e) (d:=.slice dA e.data.length dc) (Blk.new wq 110 #[.int .i64 e.at_,.int .i64 e.kind,.int .i64 e.mode,.int .i64 e.keep,.int .i64 e.torn,.string (str e.path),.slice dA e.data.length dc]) rfl (hyq.only ((Only.refl (fun _=>False) wq).alloc _) (fun _ _=>id)))
    have HFP:Hid (∀ k,F k→k<(wq.alloc (.cells #[.int .i64 e.at_,.int .i64 e.kind,.int .i64 e.mode,.int .i64 e.keep,.int .i64 e.torn,.string (str e.path),.slice dA e.data.length dc] 110)).heap.size):=fun k hk=>by have:=HX.out.low k hk;omega
    have HSZ:Hid (w.heap.size≤(wq.alloc (.cells #[.int .i64 e.at_,.int .i64 e.kind,.int .i64 e.mode,.int .i64 e.keep,.int .i64 e.torn,.string (str e.path),.slice dA e.data.length dc] 110)).heap.size):=Nat.le_trans hz1 hsa
    have s1:Hid (List.length (α:=evK.α) (planR cl (l.take k))+List.length (α:=evK.α) [e]≤2000000):=by
     have h9:=plan_len cl l k
     show (planR cl (l.take k)).length+1≤2000000
     omega
    have HBA:=Lib.hid (hbq.alloc (.cells #[.int .i64 e.at_,.int .i64 e.kind,.int .i64 e.mode,.int .i64 e.keep,.int .i64 e.torn,.string (str e.path),.slice dA e.data.length dc] 110))
    have HBQ:=Lib.hid hbq
    have HNQ:=Lib.hid hnq
    have HPNE:Hid (∀ k,pv.ownBlock=some k→w.heap.size≤k):=fun k hk=>(hoq.lt k hk).1
    clear hbq hoq hnq hevq hyq hsa
    go_wp2_with fail
    go_region_law (refine step_appendL typed_ev (v:=pv) (ex:=.slice (some ⟨wq.heap.size,0,none⟩) 1 1) (l2:=[e]) rfl (.tmp 28) (.tmp 33) rfl (by first | exact HPA.out.drew | exact HPA.out) (by first | exact HLA.out.drew | exact HLA.out) (by rfl) (by rfl) s1.out (by exact HSZ.out) (by exact HFP.out) ?_;intro v5 w5 ho5 hg5 hk5;obtain ⟨A5,c5,hv5,_,_⟩:=ho5.tmp.slice;subst hv5;have hb5:Blk w5 b 73 (fsC st { x with plan:=pv }):=HBA.out.drew.grown hg5 (fun e=>by have:=HPNE.out b e.symm;omega);have z4:w5.cell? ⟨b,4,none⟩=some pv:=hb5.cell 4;have z4f:w5.frozen? ⟨b,4,none⟩=false:=hb5.frozen 4;have HO5:=Lib.hid ho5;have HG5:=Lib.hid hg5;have HK5:=Lib.hid hk5;have HB5:=Lib.hid hb5;clear ho5 hg5 hk5 hb5)
    all_goals
     have hst:=plan_step HX.out HG5.out (by first | exact HNQ.out.alloc _ | exact (HNQ.out.alloc _).drew | exact HNQ.out.drew.alloc _) HPNE.out HB5.out HO5.out
     have HST:=Lib.hid hst
     clear hst
     generalize w5.setCell ⟨b,4,none⟩ _=w6 at *
     go_wp2_with fail
     go_roundw
     case rel=>exact ⟨k+1,_,by omega,by go_num,HST.out.1,by rw [HNX.out];exact HST.out.2.1,HST.out.2.2⟩
     case measure=>simp [intOf];omega
   ·have HNX:=Lib.hid (plan_no HE.out hgt)
    have hgt':e.at_≤cl:=by omega
    clear hgt
    go_upto_region 4 with (fail)
    go_quiet (fail)
    go_wp2_with fail
    go_roundw
    case rel=>exact ⟨k+1,pv,by omega,by go_num,HB.out.drewN _,by rw [HNX.out];exact HO.out,HON.out.drewN _⟩
    case measure=>simp [intOf];omega
  ·obtain rfl:k=ln:=by omega
   go_wp2
   go_end0
   refine ⟨rfl,?_⟩
   have h1:=HO.out
   rw [← HLN.out,List.take_length] at h1
   unfold planM
   rw [show planR st.calls l=planR cl l by rw [HCL.out]]
   exact plan_fin HX.out HMM.out HON.out HB.out h1
end Go.Proofs.YtlkolcokjmlmjaaGreat.Tx
namespace Go.Proofs.YtlkolcokjmlmjaaGreat.Tx
open Go.RowKit Go.Maps Go.Proofs.YtlkolcokjmlmjaaGreat.Sh
theorem FcAt.apart_ {F M:Nat→Prop} {w:World} {b:Nat} {c:CSt} (h:FcAt F w b c M) (k:Nat) (hk:F k):¬ M k:=by
 obtain ⟨x,h1,h2⟩:=h
 exact fun hm=>h1.self k hk ((h2 k).1 hm)
theorem RefAt.mono_ {F F' M:Nat→Prop} {w:World} {b:Nat} {st:FSM} (h:RefAt F w b st M) (hF:∀ k,F k→F' k) (hn:∀ k,F' k→¬ M k) (hl:∀ k,F' k→k<w.heap.size):RefAt F' w b st M:=by
 obtain ⟨x,h1,h2⟩:=h
 exact ⟨x,h1.mono hF (fun k hk hm=>hn k hk ((h2 k).2 hm)) hl,h2⟩
theorem RefAt.apart_ {F M:Nat→Prop} {w:World} {b:Nat} {st:FSM} (h:RefAt F w b st M) (k:Nat) (hk:F k):¬ M k:=by
 obtain ⟨x,h1,h2⟩:=h
 exact fun hm=>h1.apart k hk ((h2 k).1 hm)
theorem RefAt.only {F M Z:Nat→Prop} {w w':World} {b:Nat} {st:FSM} (h:RefAt F w b st M) (ho:Only Z w w') (hF:∀ k,F k→¬ Z k) (hM:∀ k,M k→¬ Z k):RefAt F w' b st M:=by
 obtain ⟨x,h1,h2⟩:=h
 exact ⟨x,h1.only ho hF (fun k hk=>hM k ((h2 k).2 hk)),h2⟩
structure TwoX (F:Nat→Prop) (w:World) (b:Nat) (c:CSt) (d:Nat) (st:FSM) (Mf Mx:Nat→Prop):Prop where
 f:FcAt F w b c Mf
 x:RefAt F w d st Mx
 apart:∀ k,Mf k→¬ Mx k
def TwoAt (F:Nat→Prop) (w:World) (b:Nat) (c:CSt) (d:Nat) (st:FSM) (M:Nat→Prop):Prop:=∃ Mf Mx,TwoX F w b c d st Mf Mx∧∀ k,M k↔Mf k∨Mx k
def TwoPost (F M:Nat→Prop) (w:World) (b:Nat) (c:CSt) (d:Nat) (st:FSM) (w':World):Prop:=∃ M',TwoAt (grow F w w' M') w' b c d st M'∧Only M w w'∧∀ k,M' k→M k∨w.heap.size≤k
section
variable {F F' M Mf Mx Z:Nat→Prop} {w w1 w2 w3 w':World} {b d:Nat} {c c':CSt} {st st':FSM}
end
end Go.Proofs.YtlkolcokjmlmjaaGreat.Tx
namespace Go.Proofs.YtlkolcokjmlmjaaGreat.Tx
structure LOp where
 kind:Int
 mode:Int
 keep:Int
 torn:Int
 path:List UInt8
 dest:List UInt8
 data:List UInt8
 plan:List EvM
def planC (c:CSt) (l:List EvM):CSt:={ c with plan:=(l.filter fun e=>decide (c.calls<e.at_)).mergeSort fun a b=>decide (a.at_≤b.at_) }
def doesC (c:CSt) (o:LOp):CSt :=
 if o.kind=0 then crtC c o.path o.mode o.data true
 else if o.kind=1 then crtC c o.path o.mode o.data false
 else if o.kind=2 then movC c o.path o.dest false
 else if o.kind=3 then movC c o.path o.dest true
 else if o.kind=4 then remC c o.path
 else if o.kind=5 then synC c
 else if o.kind=6 then (bgC c).c
 else if o.kind=7 then (bgC c).c
 else if o.kind=8 then uwC c o.path o.mode o.data
 else if o.kind=9 then urC c o.path
 else if o.kind=10 then crC c o.keep o.torn
 else if o.kind=11 then { c with down:=false }
 else if o.kind=12 then planC c o.plan
 else c
def doesM (s:FSM) (o:LOp):FSM :=
 if o.kind=0 then writeM s o.path o.mode o.data true
 else if o.kind=1 then writeM s o.path o.mode o.data false
 else if o.kind=2 then moveM s o.path o.dest false
 else if o.kind=3 then moveM s o.path o.dest true
 else if o.kind=4 then removeM s o.path
 else if o.kind=5 then syncM s
 else if o.kind=6 then (beginM s).st
 else if o.kind=7 then (beginM s).st
 else if o.kind=8 then userWM s o.path o.mode o.data
 else if o.kind=9 then userRM s o.path
 else if o.kind=10 then crashM s o.keep o.torn
 else if o.kind=11 then { s with down:=false }
 else if o.kind=12 then planM s o.plan
 else s
structure OpOK (o:LOp):Prop where
 path:o.path.length≤400
 dest:o.dest.length≤400
 data:o.data.length≤140737488351232
 plan:o.plan.length≤60
 paths:∀ e∈o.plan,e.path.length≤400
structure GoC (c:CSt) (i:Nat):Prop where
 fits:CFits c (130*i)
 calls:0≤c.calls∧c.calls≤(i:Int)
 plan:c.plan.length≤60
 paths:∀ e∈c.plan,e.path.length≤400
theorem GoC.ready {c:CSt} {i:Nat} (h:GoC c i) (hi:i≤4000):CReady c (130*i) :=
 ⟨h.fits,by have:=h.plan;omega,⟨h.calls.1,by have:=h.calls.2;omega⟩,fun e he=>Nat.le_trans (h.paths e he) (by decide)⟩
theorem GoC.next {c c':CSt} {i k:Nat} (h:GoC c i) (hf:CFits c' (130*i+122)) (hc:c'.calls=c.calls∨c'.calls=c.calls+1) (hp:c'.plan=c.plan.drop k):GoC c' (i+1):=by
 have h1:=h.calls
 refine ⟨hf.more (by omega),?_,?_,fun e he=>h.paths e (List.mem_of_mem_drop (hp ▸ he))⟩
 ·rcases hc with hc | hc
  ·rw [hc];constructor <;> omega
  ·rw [hc];constructor <;> omega
 ·rw [hp]
  exact Nat.le_trans (by simp) h.plan
theorem mv_plan (c:CSt) (fr tt:List UInt8) (create:Bool):(mvC c fr tt create).plan=c.plan∧(mvC c fr tt create).calls=c.calls:=by
 unfold mvC
 split <;> exact ⟨rfl,rfl⟩
theorem GoC.begun {c:CSt} {i:Nat} (h:GoC c i):CFits (bgC c).c (130*i+120):=by
 have h1:=bgN_le c
 have h2:=h.plan
 exact (h.fits.bg (bgN c) h1).more (by omega)
theorem bg_plan (c:CSt):(bgC c).c.plan=c.plan.drop (bgN c)∧(bgC c).c.calls=c.calls+1:=⟨(bgK_plan c (bgN c)).1,(bgK_plan c (bgN c)).2.1⟩
theorem GoC.crt {c:CSt} {i:Nat} (h:GoC c i) (p:List UInt8) (mode:Int) (data:List UInt8) (create:Bool):GoC (crtC c p mode data create) (i+1):=by
 obtain ⟨e1,e2⟩:=bg_plan c
 unfold crtC
 split
 ·obtain ⟨e3,e4,_⟩:=wr_plan (bgC c).c p mode data (bgC c).room create
  exact h.next ((h.begun.wr p mode data _ create).more (by omega)) (.inr (e4.trans e2)) (e3.trans e1)
 ·exact h.next (h.begun.more (by omega)) (.inr e2) e1
theorem GoC.mov {c:CSt} {i:Nat} (h:GoC c i) (fr tt:List UInt8) (create:Bool):GoC (movC c fr tt create) (i+1):=by
 obtain ⟨e1,e2⟩:=bg_plan c
 unfold movC
 split
 ·obtain ⟨e3,e4⟩:=mv_plan (bgC c).c fr tt create
  exact h.next ((h.begun.mv fr tt create).more (by omega)) (.inr (e4.trans e2)) (e3.trans e1)
 ·exact h.next (h.begun.more (by omega)) (.inr e2) e1
theorem GoC.rem {c:CSt} {i:Nat} (h:GoC c i) (p:List UInt8):GoC (remC c p) (i+1):=by
 obtain ⟨e1,e2⟩:=bg_plan c
 unfold remC
 split
 ·obtain ⟨e3,e4,_⟩:=rm_plan (bgC c).c p
  exact h.next ((h.begun.rm p).more (by omega)) (.inr (e4.trans e2)) (e3.trans e1)
 ·exact h.next (h.begun.more (by omega)) (.inr e2) e1
theorem GoC.syn {c:CSt} {i:Nat} (h:GoC c i):GoC (synC c) (i+1):=by
 obtain ⟨e1,e2⟩:=bg_plan c
 unfold synC
 split
 ·exact h.next (h.begun.settle.more (by omega)) (.inr e2) e1
 ·exact h.next (h.begun.more (by omega)) (.inr e2) e1
theorem GoC.bg {c:CSt} {i:Nat} (h:GoC c i):GoC (bgC c).c (i+1):=by
 obtain ⟨e1,e2⟩:=bg_plan c
 exact h.next (h.begun.more (by omega)) (.inr e2) e1
theorem doesC_at {P : CSt → Prop} (c : CSt) (o : LOp)
  (h0:o.kind=0→P (crtC c o.path o.mode o.data true))
  (h1:o.kind=1→P (crtC c o.path o.mode o.data false))
  (h2:o.kind=2→P (movC c o.path o.dest false))
  (h3:o.kind=3→P (movC c o.path o.dest true))
  (h4:o.kind=4→P (remC c o.path))
  (h5:o.kind=5→P (synC c))
  (h6:o.kind=6→P ((bgC c).c))
  (h7:o.kind=7→P ((bgC c).c))
  (h8:o.kind=8→P (uwC c o.path o.mode o.data))
  (h9:o.kind=9→P (urC c o.path))
  (h10:o.kind=10→P (crC c o.keep o.torn))
  (h11:o.kind=11→P ({ c with down:=false }))
  (h12:o.kind=12→P (planC c o.plan))
  (hx:o.kind<0∨12<o.kind→P c):P (doesC c o):=by
 unfold doesC
 by_cases e0:o.kind=0
 ·rw [if_pos e0];exact h0 e0
 rw [if_neg e0]
 by_cases e1:o.kind=1
 ·rw [if_pos e1];exact h1 e1
 rw [if_neg e1]
 by_cases e2:o.kind=2
 ·rw [if_pos e2];exact h2 e2
 rw [if_neg e2]
 by_cases e3:o.kind=3
 ·rw [if_pos e3];exact h3 e3
 rw [if_neg e3]
 by_cases e4:o.kind=4
 ·rw [if_pos e4];exact h4 e4
 rw [if_neg e4]
 by_cases e5:o.kind=5
 ·rw [if_pos e5];exact h5 e5
 rw [if_neg e5]
 by_cases e6:o.kind=6
 ·rw [if_pos e6];exact h6 e6
 rw [if_neg e6]
 by_cases e7:o.kind=7
 ·rw [if_pos e7];exact h7 e7
 rw [if_neg e7]
 by_cases e8:o.kind=8
 ·rw [if_pos e8];exact h8 e8
 rw [if_neg e8]
 by_cases e9:o.kind=9
 ·rw [if_pos e9];exact h9 e9
 rw [if_neg e9]
 by_cases e10:o.kind=10
 ·rw [if_pos e10];exact h10 e10
 rw [if_neg e10]
 by_cases e11:o.kind=11
 ·rw [if_pos e11];exact h11 e11
 rw [if_neg e11]
 by_cases e12:o.kind=12
 ·rw [if_pos e12];exact h12 e12
 rw [if_neg e12]
 exact hx (by omega)
theorem GoC.new_ (room:Int):GoC (newC room) 0:=by
 refine ⟨⟨Nat.le_refl _,Nat.le_refl _,Nat.le_refl _,Int.le_refl _,Int.le_refl _,?_,?_,?_⟩,⟨Int.le_refl _,Int.le_refl _⟩,Nat.zero_le _,?_⟩
 all_goals exact fun r hr=>by cases hr
structure GoM (s:FSM) (i:Nat):Prop where
 fits:Fits s (130*i)
 calls:0≤s.calls∧s.calls≤(i:Int)
 plan:s.plan.length≤60
 paths:∀ e∈s.plan,e.path.length≤400
theorem bg_none {c:CSt} (h:c.plan=[]):bgC c=bg0 c:=by
 have h1:bgN c=0:=by unfold bgN;rw [h];rfl
 unfold bgC
 rw [h1]
 exact bgK_zero c
structure Tick (c c':CSt):Prop where
 calls:c'.calls=c.calls
 plan:c'.plan=c.plan
 time:c'.time=c.time∧c'.pending.length=c.pending.length∨c'.time=c.time+1∧c'.pending.length=c.pending.length+1
structure Counts (c c':CSt) (k:Int):Prop where
 calls:c'.calls=c.calls+if k≤7 then 1 else 0
 time:c.time≤c'.time∧c'.time≤c.time+1
 four:k≤4→(c'.pending.length:Int)=c.pending.length+c'.time - c.time
 more:4<k→c'.pending.length≤c.pending.length
 still:5≤k→k≤7→c'.time=c.time
 plan:c'.plan=[]
end Go.Proofs.YtlkolcokjmlmjaaGreat.Tx
namespace Go.Proofs.YtlkolcokjmlmjaaGreat.Sh
def shlw (u:UInt32) (n:Nat):UInt32:=u <<< UInt32.ofNat n
def shrw (u:UInt32) (n:Nat):UInt32:=u >>> UInt32.ofNat n
def rotl (u:UInt32) (n:Nat):UInt32:=shlw u n ||| shrw u (32 - n)
def rot3 (u:UInt32) (a b c:Nat):UInt32:=rotl u a ^^^ rotl u b ^^^ rotl u c
def rots (u:UInt32) (a b c:Nat):UInt32:=rotl u a ^^^ rotl u b ^^^ shrw u c
def kList:List UInt32:=[
 0x428a2f98,0x71374491,0xb5c0fbcf,0xe9b5dba5,0x3956c25b,0x59f111f1,0x923f82a4,0xab1c5ed5,
 0xd807aa98,0x12835b01,0x243185be,0x550c7dc3,0x72be5d74,0x80deb1fe,0x9bdc06a7,0xc19bf174,
 0xe49b69c1,0xefbe4786,0x0fc19dc6,0x240ca1cc,0x2de92c6f,0x4a7484aa,0x5cb0a9dc,0x76f988da,
 0x983e5152,0xa831c66d,0xb00327c8,0xbf597fc7,0xc6e00bf3,0xd5a79147,0x06ca6351,0x14292967,
 0x27b70a85,0x2e1b2138,0x4d2c6dfc,0x53380d13,0x650a7354,0x766a0abb,0x81c2c92e,0x92722c85,
 0xa2bfe8a1,0xa81a664b,0xc24b8b70,0xc76c51a3,0xd192e819,0xd6990624,0xf40e3585,0x106aa070,
 0x19a4c116,0x1e376c08,0x2748774c,0x34b0bcb5,0x391c0cb3,0x4ed8aa4a,0x5b9cca4f,0x682e6ff3,
 0x748f82ee,0x78a5636f,0x84c87814,0x8cc70208,0x90befffa,0xa4506ceb,0xbef9a3f7,0xc67178f2]
structure St where
 a:UInt32
 b:UInt32
 c:UInt32
 d:UInt32
 e:UInt32
 f:UInt32
 g:UInt32
 h:UInt32
deriving DecidableEq
def St.first:St:=⟨0x6a09e667,0xbb67ae85,0x3c6ef372,0xa54ff53a,0x510e527f,0x9b05688c,0x1f83d9ab,0x5be0cd19⟩
def St.list (s:St):List UInt32:=[s.a,s.b,s.c,s.d,s.e,s.f,s.g,s.h]
def wordAt (bs:List UInt8) (i:Nat):UInt32 :=
 shlw (bs.getD (4*i) 0).toUInt32 24 ||| shlw (bs.getD (4*i+1) 0).toUInt32 16 ||| shlw (bs.getD (4*i+2) 0).toUInt32 8 ||| (bs.getD (4*i+3) 0).toUInt32
def nextWord (p:List UInt32) (n:Nat):UInt32 :=
 p.getD (n - 16) 0+p.getD (n - 7) 0+rots (p.getD (n - 15) 0) 25 14 3+rots (p.getD (n - 2) 0) 15 13 10
def words (bs:List UInt8):Nat→List UInt32
 | 0=>[]
 | n+1=>words bs n++[if n<16 then wordAt bs n else nextWord (words bs n) n]
theorem words_length (bs:List UInt8) (n:Nat):(words bs n).length=n:=by
 induction n with
 | zero=>rfl
 | succ n ih=>simp [words,ih]
theorem words_getD (bs:List UInt8) (n m j:Nat) (h:j<n) (hm:n≤m):(words bs m).getD j 0=(words bs n).getD j 0:=by
 induction m with
 | zero=>omega
 | succ m ih =>
  by_cases e:n=m+1
  ·rw [e]
  ·rw [← ih (by omega)]
   simp only [words,List.getD_eq_getElem?_getD]
   rw [List.getElem?_append_left (by rw [words_length];omega)]
def wd (bs:List UInt8) (j:Nat):UInt32:=(words bs 64).getD j 0
theorem wd_def (bs:List UInt8) (j:Nat):wd bs j=(words bs 64).getD j 0:=rfl
theorem wd_last (bs:List UInt8) (n:Nat) (h:n<64):wd bs n=if n<16 then wordAt bs n else nextWord (words bs n) n:=by
 unfold wd
 rw [words_getD bs (n+1) 64 n (by omega) (by omega)]
 have hl:=words_length bs n
 simp only [words,List.getD_eq_getElem?_getD]
 rw [List.getElem?_append_right (by omega),hl]
 simp
theorem wd_lo (bs:List UInt8) (n:Nat) (h:n<16):wd bs n=wordAt bs n:=by
 rw [wd_last bs n (by omega),if_pos h]
theorem wd_hi (bs : List UInt8) (n : Nat) (h : 16 ≤ n) (h2 : n < 64) :
  wd bs n=wd bs (n - 16)+wd bs (n - 7)+rots (wd bs (n - 15)) 25 14 3+rots (wd bs (n - 2)) 15 13 10:=by
 rw [wd_last bs n h2,if_neg (by omega)]
 unfold nextWord wd
 rw [words_getD bs n 64 (n - 16) (by omega) (by omega),words_getD bs n 64 (n - 7) (by omega) (by omega),words_getD bs n 64 (n - 15) (by omega) (by omega),words_getD bs n 64 (n - 2) (by omega) (by omega)]
def first1 (s:St) (k w:UInt32):UInt32 :=
 s.h+rot3 s.e 26 21 7+((s.e &&& s.f) ^^^ (~~~ s.e &&& s.g))+k+w
def second1 (s:St):UInt32 :=
 rot3 s.a 30 19 10+((s.a &&& s.b) ^^^ (s.a &&& s.c) ^^^ (s.b &&& s.c))
def step (s:St) (k w:UInt32):St :=
 ⟨first1 s k w+second1 s,s.a,s.b,s.c,s.d+first1 s k w,s.e,s.f,s.g⟩
def rounds (ws:List UInt32) (s:St):Nat→St
 | 0=>s
 | n+1=>step (rounds ws s n) (kList.getD n 0) (ws.getD n 0)
def plus (s t:St):St:=⟨s.a+t.a,s.b+t.b,s.c+t.c,s.d+t.d,s.e+t.e,s.f+t.f,s.g+t.g,s.h+t.h⟩
def press (s:St) (bs:List UInt8):St:=plus s (rounds (words bs 64) s 64)
def blocks (s:St) (bs:List UInt8):Nat→St
 | 0=>s
 | n+1=>press (blocks s bs n) ((bs.drop (64*n)).take 64)
def be4 (u:UInt32):List UInt8:=[(shrw u 24).toUInt8,(shrw u 16).toUInt8,(shrw u 8).toUInt8,u.toUInt8]
def outB (s:St):List UInt8:=be4 s.a++be4 s.b++be4 s.c++be4 s.d++be4 s.e++be4 s.f++be4 s.g++be4 s.h
def zeros (n:Nat):Nat:=(119 - n % 64) % 64
def len8 (n:Nat):List UInt8 :=
 [UInt8.ofNat (8*n / 2 ^ 56),UInt8.ofNat (8*n / 2 ^ 48),UInt8.ofNat (8*n / 2 ^ 40),UInt8.ofNat (8*n / 2 ^ 32),UInt8.ofNat (8*n / 2 ^ 24),UInt8.ofNat (8*n / 2 ^ 16),UInt8.ofNat (8*n / 2 ^ 8),UInt8.ofNat (8*n)]
def lastOf (rest:List UInt8) (n:Nat):List UInt8:=rest++128::List.replicate (zeros n) 0++len8 n
def full (bs:List UInt8):St:=blocks St.first bs (bs.length / 64)
def tail64 (bs:List UInt8):List UInt8:=bs.drop (64*(bs.length / 64))
def sumOf (bs:List UInt8):List UInt8 :=
 outB (blocks (full bs) (lastOf (tail64 bs) bs.length) ((lastOf (tail64 bs) bs.length).length / 64))
theorem rounds_zero (ws:List UInt32) (s:St):rounds ws s 0=s:=rfl
theorem rounds_next (ws:List UInt32) (s:St) (n:Nat):rounds ws s (n+1)=step (rounds ws s n) (kList.getD n 0) (ws.getD n 0):=rfl
theorem press_eq (s:St) (bs:List UInt8):press s bs=plus s (rounds (words bs 64) s 64):=rfl
theorem blocks_zero (s:St) (bs:List UInt8):blocks s bs 0=s:=rfl
theorem blocks_next (s:St) (bs:List UInt8) (n:Nat):blocks s bs (n+1)=press (blocks s bs n) ((bs.drop (64*n)).take 64):=rfl
theorem full_eq (bs:List UInt8):full bs=blocks St.first bs (bs.length / 64):=rfl
theorem sumOf_eq (bs:List UInt8):sumOf bs=outB (blocks (full bs) (lastOf (tail64 bs) bs.length) ((lastOf (tail64 bs) bs.length).length / 64)):=rfl
theorem kList_length:kList.length=64:=rfl
attribute [irreducible] words wd rounds press blocks full sumOf kList
end Go.Proofs.YtlkolcokjmlmjaaGreat.Sh
namespace Go.Proofs.YtlkolcokjmlmjaaGreat.Sh
open Go.RowKit
def wi (u:UInt32):Int:=(u.toNat:Int)
def bi (u:UInt8):Int:=(u.toNat:Int)
theorem bi_lt (u:UInt8):0≤bi u∧bi u≤255:=by
 unfold bi;have:=u.toNat_lt;omega
theorem wadd (a b:UInt32):IntKind.u32.wrap (wi a+wi b)=wi (a+b):=by
 unfold wi;rw [IntKind.wrap_u32,UInt32.toNat_add];omega
theorem wxor (a b:UInt32):bits .xor .u32 (wi a) (wi b)=wi (a ^^^ b):=by
 unfold wi;rw [u32_xor_nat _ _ (by have:=a.toNat_lt;omega) (by have:=b.toNat_lt;omega),UInt32.toNat_xor]
theorem wand (a b:UInt32):bits .and .u32 (wi a) (wi b)=wi (a &&& b):=by
 unfold wi;rw [u32_and_nat _ _ (by have:=a.toNat_lt;omega) (by have:=b.toNat_lt;omega),UInt32.toNat_and]
theorem wor (a b:UInt32):bits .or .u32 (wi a) (wi b)=wi (a ||| b):=by
 unfold wi;rw [u32_or_nat _ _ (by have:=a.toNat_lt;omega) (by have:=b.toNat_lt;omega),UInt32.toNat_or]
theorem toNat_ofNat32 (n:Nat) (h:n<32):(UInt32.ofNat n).toNat=n:=by
 simp [UInt32.toNat_ofNat'];omega
theorem wshl (u:UInt32) (n:Nat) (h:n<32):IntKind.u32.wrap (wi u*2 ^ n)=wi (shlw u n):=by
 unfold wi shlw
 rw [IntKind.wrap_u32,UInt32.toNat_shiftLeft,toNat_ofNat32 n h,Nat.mod_eq_of_lt h,Nat.shiftLeft_eq]
 have:((u.toNat:Int)*2 ^ n)=((u.toNat*2 ^ n:Nat):Int):=by simp
 rw [this]
 omega
theorem wshr (u:UInt32) (n:Nat) (h:n<32):wi u / 2 ^ n=wi (shrw u n):=by
 unfold wi shrw
 rw [UInt32.toNat_shiftRight,toNat_ofNat32 n h,Nat.mod_eq_of_lt h,Nat.shiftRight_eq_div_pow]
 simp
theorem wnot (a:UInt32):bits .xor .u32 IntKind.u32.max (wi a)=wi (~~~ a):=by
 unfold wi
 have hm:IntKind.u32.max=((4294967295:Nat):Int):=by decide
 rw [hm,u32_xor_nat _ _ (by omega) (by have:=a.toNat_lt;omega)]
 congr 1
theorem wbyte (b:UInt8):IntKind.u32.wrap (bi b)=wi b.toUInt32:=by
 unfold bi wi;rw [IntKind.wrap_u32,UInt8.toNat_toUInt32];have:=b.toNat_lt;omega
attribute [irreducible] wi bi
theorem add_at (a:Addr) (n:Nat) (h:0<n):a.add n=⟨a.block,a.off+n,none⟩:=by
 unfold Addr.add;rw [if_neg (by omega)]
set_option maxHeartbeats 400000 in
theorem rot_any (u : UInt32) (x : Int) (n : Nat) (hn : bits BinOp.and IntKind.u64 (IntKind.u64.wrap x) 31 = (n : Int)) (h1 : 0 < n) (h2 : n < 32) (w : World) :
  Calls Tryz.prog 177 #[.int .u32 (wi u),.int .i64 x] w fun e w'=>e=.returned (.int .u32 (wi (rotl u n)))∧w=w':=by
 have r1:wi u*2 ^ n % 4294967296=wi (shlw u n):=by rw [← wshl u n h2,IntKind.wrap_u32]
 have r2:=wshr u (32 - n) (by omega)
 have e1:IntKind.u64.wrap (32 - (n:Int))=((32 - n:Nat):Int):=by rw [IntWalk.u64_in _ (by omega)];omega
 have e2:=wor (shlw u n) (shrw u (32 - n))
 have E:Hid (rotl u n=shlw u n ||| shrw u (32 - n)):=rfl
 go_enter Tryz.func177,Tryz.ntmps177
 go_wp2
 go_ret
 exact ⟨by rw [E.out];rfl,rfl⟩
set_option maxHeartbeats 400000 in
theorem turned_any (u : UInt32) (x y z : Int) (a b c : Nat) (hx : 0 < x ∧ x < 32) (hy : 0 < y ∧ y < 32) (hz : 0 < z ∧ z < 32)
  (ha:bits BinOp.and IntKind.u64 (IntKind.u64.wrap (-x)) 31=(a:Int)) (hb:bits BinOp.and IntKind.u64 (IntKind.u64.wrap (-y)) 31=(b:Int)) (hc:bits BinOp.and IntKind.u64 (IntKind.u64.wrap (-z)) 31=(c:Int))
  (h1:(0<a∧a<32)∧(0<b∧b<32)∧(0<c∧c<32)) (w:World) :
  Calls Tryz.prog 168 #[.int .u32 (wi u),.int .i64 x,.int .i64 y,.int .i64 z] w fun e w'=>e=.returned (.int .u32 (wi (rot3 u a b c)))∧w=w':=by
 have e1:=wxor (rotl u a) (rotl u b)
 have e2:=wxor (rotl u a ^^^ rotl u b) (rotl u c)
 have E:Hid (rot3 u a b c=rotl u a ^^^ rotl u b ^^^ rotl u c):=rfl
 have HA:=Lib.hid ha
 have HB:=Lib.hid hb
 have HC:=Lib.hid hc
 clear ha hb hc
 go_enter Tryz.func168,Tryz.ntmps168
 go_wp2_with fail
 refine (rot_any u _ a HA.out h1.1.1 h1.1.2 _).mono ?_
 rintro e w' ⟨rfl,rfl⟩
 go_wp2_with fail
 refine (rot_any u _ b HB.out h1.2.1.1 h1.2.1.2 _).mono ?_
 rintro e w' ⟨rfl,rfl⟩
 go_wp2_with fail
 refine (rot_any u _ c HC.out h1.2.2.1 h1.2.2.2 _).mono ?_
 rintro e w' ⟨rfl,rfl⟩
 go_wp2_with fail
 go_ret
 exact ⟨by rw [E.out];rfl,rfl⟩
set_option maxHeartbeats 400000 in
theorem shifted_any (u : UInt32) (x y z : Int) (a b c : Nat) (hx : 0 < x ∧ x < 32) (hy : 0 < y ∧ y < 32) (hz : z = (c : Int))
  (ha:bits BinOp.and IntKind.u64 (IntKind.u64.wrap (-x)) 31=(a:Int)) (hb:bits BinOp.and IntKind.u64 (IntKind.u64.wrap (-y)) 31=(b:Int))
  (h1:(0<a∧a<32)∧(0<b∧b<32)∧(0<c∧c<32)) (w:World) :
  Calls Tryz.prog 176 #[.int .u32 (wi u),.int .i64 x,.int .i64 y,.int .i64 z] w fun e w'=>e=.returned (.int .u32 (wi (rots u a b c)))∧∃ k,w'=w.drewN k:=by
 subst hz
 have e1:=wxor (rotl u a) (rotl u b)
 have e2:=wxor (rotl u a ^^^ rotl u b) (shrw u c)
 have r2:=wshr u c h1.2.2.2
 have E:Hid (rots u a b c=rotl u a ^^^ rotl u b ^^^ (shrw u c)):=rfl
 have HA:=Lib.hid ha
 have HB:=Lib.hid hb
 clear ha hb
 go_enter Tryz.func176,Tryz.ntmps176
 go_wp2_with fail
 go_quiet (first | (go_at_call_of 177 (Value.int .i64 (-x));exact Calls.quiet_of_same ((rot_any u _ a HA.out h1.1.1 h1.1.2 _).mono fun _ _ h=>⟨h.1,h.2.symm⟩)) | (go_at_call 177;exact Calls.quiet_of_same ((rot_any u _ b HB.out h1.2.1.1 h1.2.1.2 _).mono fun _ _ h=>⟨h.1,h.2.symm⟩)))
 go_wp2_with fail
 go_ret
 exact ⟨by rw [E.out];rfl,_,rfl⟩
end Go.Proofs.YtlkolcokjmlmjaaGreat.Sh
