/- Texts put together: VGt0, VTn3, VTq2, VNc1, VNc2, VGt1. -/
import Derived.Test.YtlkolcokjmlmjaaGreatQv11
import Derived.Test.YtlkolcokjmlmjaaGreatQv08
import Derived.Maps.OwnSet
import Derived.Maps.OwnOps
import Derived.Maps.StringElems
import Derived.Sort.KeysCollected
import Derived.Test.YtlkolcokjmlmjaaGreatQv01
import Derived.Test.YtlkolcokjmlmjaaGreatQv03
namespace Go.Proofs.YtlkolcokjmlmjaaGreat.Tx
open Go.RowKit Go.Maps Go.Proofs.YtlkolcokjmlmjaaGreat.Sh
def hv (v:Value):Option (DataW Value × List MemPlace):=some (.held v,[])
def fileV (f:FileM) (d:Value):Value:=.agg #[.int .i64 f.mode,d,.int .i64 f.time]
abbrev OwnF (w:World) (b:Nat) (D:DataW Value):Prop:=w.ownsMap Tryz.prog 9 hv b (Maps.size D) D
abbrev OwnU (w:World) (b:Nat) (D:DataW Unit):Prop:=w.ownsMap Tryz.prog 9 (plainElem Tryz.prog 3) b (Maps.size D) D
theorem lawS:Keyed Tryz.prog 9:=string_keyed Tryz.underlying9
theorem isK (p:List UInt8):WideAt.IsKeyLit (.string p):=trivial
theorem key_str (p:List UInt8) (hp:p.length≤1000000):keyOf Tryz.prog 9 (.string (str p))=some (.string p):=by
 have:=Go.WideMaps.keyOf_string_mk (P:=Tryz.prog) (s:=str p) Tryz.underlying9 (by rw [str_size];unfold maxLen;omega)
 rw [this]
 exact congrArg (fun l=>some (Lit.string l)) (by simp [str]:(str p).data.toList=p)
section
variable {H:Type} {P:Program} {k:TypeId} {R:Value→Option (DataW H × List MemPlace)} {w w':World} {b n:Nat} {D:DataW H}
theorem own_exact (h:w.ownsMap P k R b n D):w.ownsMap P k R b (Maps.size D) D:=by
 obtain ⟨es,clock,hb,F,hs,hD⟩:=h
 refine ⟨es,clock,hb,F,?_,hD⟩
 rw [hD,Maps.size_eq,length_sorted]
 simp
theorem own_only {M:Nat→Prop} (h:w.ownsMap P k R b n D) (ho:Only M w w') (hn:¬ M b):w'.ownsMap P k R b n D:=by
 have hlt:=h.lt
 obtain ⟨es,clock,hb,F,hs,hD⟩:=h
 exact ⟨es,clock,(ho.block b hlt hn).trans hb,F,hs,hD⟩
end
theorem own_keys {H : Type} {R : Value → Option (DataW H × List MemPlace)} {w : World} {b n : Nat} {D : DataW H} (h : w.ownsMap Tryz.prog 9 R b n D) :
  ∃ es,D=.map es∧es.Pairwise (fun p q=>p.1≠q.1)∧∀ e∈es,∃ x,e.1=.string x:=by
 obtain ⟨es,rfl,hp⟩:=h.tidy lawS
 obtain ⟨es',he,hk⟩:=h.keysOf
 cases he
 refine ⟨es,rfl,hp,fun e he=>?_⟩
 obtain ⟨v,hv⟩:=hk e he
 obtain ⟨x,_,hx,_⟩:=Maps.keyOf_str Tryz.underlying9 hv
 exact ⟨x,hx⟩
theorem own_perm {H : Type} {R : Value → Option (DataW H × List MemPlace)} {w : World} {b n : Nat} {D : DataW H} (h : w.ownsMap Tryz.prog 9 R b n D) {ss : List (List UInt8)} (hn : ss.Nodup) (hm : ∀ x, x ∈ ss ↔ Maps.has D (.string x) = true) :
  ss.Perm (strKeys D)∧Maps.size D=ss.length:=by
 obtain ⟨es,rfl,hp,hk⟩:=own_keys h
 have:=perm_strKeys hp hk hn hm
 refine ⟨this,?_⟩
 rw [this.length_eq,Maps.size_eq]
 exact (List.length_map _).symm
theorem own_within {H:Type} {R:Value→Option (DataW H × List MemPlace)} {w:World} {b n:Nat} {D:DataW H} (h:w.ownsMap Tryz.prog 9 R b n D) {ds:List (List UInt8)} (hm:∀ x,Maps.has D (.string x)=true→x∈ds):Maps.size D≤ds.length:=by
 obtain ⟨es,rfl,hp,hk⟩:=own_keys h
 rw [Maps.size_eq]
 have hl:(es.map fun p=>strOf p.1).length=es.length:=List.length_map _
 rw [← hl]
 refine nodup_within (List.pairwise_map.2 (hp.imp_of_mem ?_)) (fun x hx=>?_)
 ·intro p q hp' hq' hne e
  refine hne ?_
  obtain ⟨a,ha⟩:=hk p hp'
  obtain ⟨c,hc⟩:=hk q hq'
  rw [ha,hc] at e ⊢
  exact congrArg _ e
 ·obtain ⟨p,hp',rfl⟩:=List.mem_map.1 hx
  obtain ⟨a,ha⟩:=hk p hp'
  refine hm _ (List.any_eq_true.2 ⟨p,hp',?_⟩)
  rw [ha]
  exact beq_self_eq_true a
structure FilesOK (F:Nat→Prop) (w:World) (R:List RowM) (D:DataW Value):Prop where
 has_:∀ p,Maps.has D (.string p)=standsM R p
 at_:∀ r∈R,∃ d,By F w d r.f.data∧∀ z,D.atKey (.string r.path) z=.held (fileV r.f d)
def UnderOK (c:List UInt8→Nat) (D:DataW Unit):Prop:=∀ p,Maps.has D (.string p)=decide (0<c p)∧D.atKey (.string p) (.lit (.int .i64 0))=.lit (.int .i64 (c p))
def treeM (t bf bu:Nat):Nat→Prop:=fun k=>k=t∨k=bf∨k=bu
structure TreeX (F:Nat→Prop) (w:World) (t:Nat) (R:List RowM) (bf bu:Nat):Prop where
 blk:Blk w t 115 #[.map (some bf),.map (some bu),.int .i64 (usedM R)]
 files:∃ D,OwnF w bf D∧FilesOK F w R D
 under:∃ D,OwnU w bu D∧UnderOK (cntM R) D
 ne:bf≠bu
 ord:Ord R
theorem FilesOK.only {F M:Nat→Prop} {w w':World} {R:List RowM} {D:DataW Value} (h:FilesOK F w R D) (ho:Only M w w') (hF:∀ k,F k→¬ M k):FilesOK F w' R D :=
 ⟨h.has_,fun r hr=>by
  obtain ⟨d,h1,h2⟩:=h.at_ r hr
  exact ⟨d,h1.only ho hF,h2⟩⟩
theorem FilesOK.mono {F F':Nat→Prop} {w:World} {R:List RowM} {D:DataW Value} (h:FilesOK F w R D) (hF:∀ k,k<w.heap.size→F k→F' k):FilesOK F' w R D :=
 ⟨h.has_,fun r hr=>by
  obtain ⟨d,h1,h2⟩:=h.at_ r hr
  exact ⟨d,h1.mono hF,h2⟩⟩
section
variable {F F' M:Nat→Prop} {w w':World} {t bf bu:Nat} {R:List RowM}
theorem TreeX.only (h:TreeX F w t R bf bu) (ho:Only M w w') (hF:∀ k,F k→¬ M k) (hM:∀ k,treeM t bf bu k→¬ M k):TreeX F w' t R bf bu:=by
 obtain ⟨D,h1,h2⟩:=h.files
 obtain ⟨E,h3,h4⟩:=h.under
 exact ⟨ho.blk h.blk (hM t (.inl rfl)),⟨D,own_only h1 ho (hM bf (.inr (.inl rfl))),h2.only ho hF⟩,⟨E,own_only h3 ho (hM bu (.inr (.inr rfl))),h4⟩,h.ne,h.ord⟩
theorem TreeX.below (h:TreeX F w t R bf bu) (hb:Below w.heap.size w w'):TreeX F w' t R bf bu:=h.only (Only.of_below (M:=fun _=>False) hb) (fun _ _=>id) (fun _ _=>id)
theorem TreeX.mono (h:TreeX F w t R bf bu) (hF:∀ k,k<w.heap.size→F k→F' k):TreeX F' w t R bf bu:=by
 obtain ⟨D,h1,h2⟩:=h.files
 exact ⟨h.blk,⟨D,h1,h2.mono hF⟩,h.under,h.ne,h.ord⟩
theorem TreeX.lt (h:TreeX F w t R bf bu) (k:Nat) (hk:treeM t bf bu k):k<w.heap.size:=by
 obtain ⟨D,h1,_⟩:=h.files
 obtain ⟨E,h3,_⟩:=h.under
 rcases hk with rfl | rfl | rfl
 ·exact h.blk.lt
 ·exact h1.lt
 ·exact h3.lt
theorem own_cells {H:Type} {P:Program} {k:TypeId} {Rr:Value→Option (DataW H × List MemPlace)} {w:World} {b n g:Nat} {D:DataW H} {T:TypeId} {cs:Array Value} (h:w.ownsMap P k Rr b n D) (hg:Blk w g T cs):b≠g:=by
 rintro rfl
 obtain ⟨es,clock,hb,_⟩:=h
 unfold Blk at hg
 rw [hb] at hg
 cases hg
theorem TreeX.f_ne (h:TreeX F w t R bf bu):bf≠t:=by
 obtain ⟨D,h1,_⟩:=h.files
 exact own_cells h1 h.blk
theorem TreeX.u_ne (h:TreeX F w t R bf bu):bu≠t:=by
 obtain ⟨E,h3,_⟩:=h.under
 exact own_cells h3 h.blk
end
theorem ord_nodup {R:List RowM} (h:Ord R):(R.map fun r=>r.path).Nodup:=by
 refine List.pairwise_map.2 (h.imp fun {a c} hab e=>?_)
 rw [e,bl_irr] at hab
 cases hab
theorem FilesOK.keys {F:Nat→Prop} {w w2:World} {b n:Nat} {R:List RowM} {D:DataW Value} (h:FilesOK F w R D) (hown:w2.ownsMap Tryz.prog 9 hv b n D) (ho:Ord R):(R.map fun r=>r.path).Perm (strKeys D)∧Maps.size D=R.length:=by
 have:=own_perm hown (ss:=R.map fun r=>r.path) (ord_nodup ho) (fun x=>by
  rw [h.has_,stands_iff,List.mem_map])
 rw [List.length_map] at this
 exact this
theorem UnderOK.small {c:List UInt8→Nat} {w:World} {b n:Nat} {D:DataW Unit} (h:UnderOK c D) (hown:w.ownsMap Tryz.prog 9 (plainElem Tryz.prog 3) b n D) {ds:List (List UInt8)} (hc:∀ p,c p≤ds.count p):Maps.size D≤ds.length :=
 own_within hown fun x hx=>by
  rw [(h x).1] at hx
  have:=hc x
  have h0:0<c x:=of_decide_eq_true hx
  exact List.count_pos_iff.1 (by omega)
theorem UnderOK.put {c c':List UInt8→Nat} {D:DataW Unit} (h:UnderOK c D) (hm:Maps.IsMap D) (q:List UInt8) (v:Nat) (hv:0<v) (hq:c' q=v) (hc:∀ p,p≠q→c' p=c p):UnderOK c' (D.put (.string q) (.lit (.int .i64 v))):=fun p=>by
 by_cases e:p=q
 ·subst e
  rw [Maps.has_put_same hm (isK _),Maps.atKey_put_same hm (isK _),hq]
  exact ⟨(decide_eq_true hv).symm,rfl⟩
 ·have hne:Lit.string p≠Lit.string q:=fun h=>e (by injection h)
  rw [Maps.has_put_other hne,Maps.atKey_put_other hne,hc p e]
  exact h p
theorem UnderOK.del {c c':List UInt8→Nat} {D D0:DataW Unit} (h:UnderOK c D0) (q:List UInt8) (v:DataW Unit) (hD:D=D0.put (.string q) v) (hq:c' q=0) (hc:∀ p,p≠q→c' p=c p):UnderOK c' (D.del (.string q)):=fun p=>by
 by_cases e:p=q
 ·subst e
  rw [Maps.has_del_same,Maps.atKey_del_same,hq]
  exact ⟨rfl,rfl⟩
 ·have hne:Lit.string p≠Lit.string q:=fun h=>e (by injection h)
  rw [Maps.has_del_other hne,Maps.atKey_del_other hne,hD,Maps.has_put_other hne,Maps.atKey_put_other hne,hc p e]
  exact h p
theorem FilesOK.put {F:Nat→Prop} {w:World} {R:List RowM} {D:DataW Value} (h:FilesOK F w R D) (hm:Maps.IsMap D) {p:List UInt8} {f:FileM} {d:Value} (hd:By F w d f.data):FilesOK F w (withM R p f) (D.put (.string p) (.held (fileV f d))):=by
 refine ⟨fun q=>?_,fun r hr=>?_⟩
 ·rw [stands_with]
  by_cases e:q=p
  ·subst e
   rw [Maps.has_put_same hm (isK _),decide_eq_true rfl,Bool.true_or]
  ·have hne:Lit.string q≠Lit.string p:=fun h=>e (by injection h)
   rw [Maps.has_put_other hne,decide_eq_false e,Bool.false_or]
   exact h.has_ q
 ·rcases mem_with.1 hr with rfl | ⟨h1,h2⟩
  ·exact ⟨d,hd,fun z=>Maps.atKey_put_same hm (isK _) _ z⟩
  ·obtain ⟨d',h3,h4⟩:=h.at_ r h1
   have hne:Lit.string r.path≠Lit.string p:=fun h=>h2 (by injection h)
   exact ⟨d',h3,fun z=>by rw [Maps.atKey_put_other hne];exact h4 z⟩
theorem FilesOK.del {F:Nat→Prop} {w:World} {R:List RowM} {D:DataW Value} (h:FilesOK F w R D) (p:List UInt8):FilesOK F w (withoutM R p) (D.del (.string p)):=by
 refine ⟨fun q=>?_,fun r hr=>?_⟩
 ·rw [stands_without]
  by_cases e:q=p
  ·subst e
   rw [Maps.has_del_same,decide_eq_true rfl,Bool.not_true,Bool.false_and]
  ·have hne:Lit.string q≠Lit.string p:=fun h=>e (by injection h)
   rw [Maps.has_del_other hne,decide_eq_false e,Bool.not_false,Bool.true_and]
   exact h.has_ q
 ·obtain ⟨h1,h2⟩:=mem_without.1 hr
  obtain ⟨d',h3,h4⟩:=h.at_ r h1
  have hne:Lit.string r.path≠Lit.string p:=fun h=>h2 (by injection h)
  exact ⟨d',h3,fun z=>by rw [Maps.atKey_del_other hne];exact h4 z⟩
end Go.Proofs.YtlkolcokjmlmjaaGreat.Tx
namespace Go.Proofs.YtlkolcokjmlmjaaGreat.Tx
open Go.RowKit Go.Proofs.YtlkolcokjmlmjaaGreat.Sh
def Yes (w:World) (e:Ending) (w':World):Prop:=e=.returned (.bool true)∧Below w.heap.size w w'
theorem ba_ext {s t:ByteArray} (h:s.toList=t.toList):s=t:=by
 rw [ByteArray.toList_eq,ByteArray.toList_eq] at h
 exact ByteArray.ext (Array.toList_inj.1 h)
def hasT (xs:List ByteArray) (s:ByteArray):Bool:=xs.any (fun t=>t.toList==s.toList)
theorem hasT_yes {xs:List ByteArray} {s:ByteArray} (h:s∈xs):hasT xs s=true:=List.any_eq_true.2 ⟨s,h,beq_self_eq_true _⟩
theorem hasT_no {xs:List ByteArray} {s:ByteArray} (h:s∉xs):hasT xs s=false:=by
 unfold hasT
 rw [List.any_eq_false]
 intro t ht e
 exact h (by rw [← ba_ext (beq_iff_eq.1 e)];exact ht)
theorem hasT_iff {xs:List ByteArray} {s:ByteArray}:hasT xs s=true↔s∈xs:=by
 constructor
 ·intro h
  rcases Classical.em (s∈xs) with h1 | h1
  ·exact h1
  ·rw [hasT_no h1] at h;cases h
 ·exact hasT_yes
theorem toList_ne {s t:ByteArray} (h:t≠s):(t.toList==s.toList)=false:=by rw [beq_eq_false_iff_ne];exact fun e=>h (ba_ext e)
end Go.Proofs.YtlkolcokjmlmjaaGreat.Tx
namespace Go.Proofs.YtlkolcokjmlmjaaGreat.Tx
end Go.Proofs.YtlkolcokjmlmjaaGreat.Tx
namespace Go.Proofs.YtlkolcokjmlmjaaGreat.Tx
open Go.RowKit Go.Proofs.YtlkolcokjmlmjaaGreat.Sh
set_option maxRecDepth 100000 in
set_option maxHeartbeats 1600000 in
theorem cname_any (cs:List UInt8) (w:World) (hn:cs.length≤1000000):Calls Tryz.prog 24 #[.string (str cs)] w fun e w'=>e=.returned (.bool (nameB cs))∧w=w':=by
 have hsz:=str_size cs
 have htl:=str_toList cs
 obtain ⟨l,hL⟩:∃ l,cs.length=l:=⟨_,rfl⟩
 rw [hL] at hsz hn
 have HL:=Lib.hid hL
 have n0:(0:Int)≤(l:Int):=by omega
 clear hL
 rcases Nat.eq_zero_or_pos l with h1 | h1
 ·have HR : Hid (nameB cs = false) := by
   unfold Hid
   rw [nameB_eq,HL.out]
   simp [h1]
  have e0:(str cs).toList.isEmpty=true:=by
   have:cs=[]:=List.eq_nil_of_length_eq_zero (by rw [HL.out];exact h1)
   rw [htl,this];rfl
  have e0':((str cs).toList==[])=true:=by
   have:cs=[]:=List.eq_nil_of_length_eq_zero (by rw [HL.out];exact h1)
   rw [htl,this];rfl
  clear htl h1 n0
  go_enter Tryz.func24,Tryz.ntmps24
  go_wp2
  go_ret
  exact ⟨by rw [HR.out];rfl,rfl⟩
 ·obtain ⟨e0,e0'⟩:(str cs).toList.isEmpty=false∧((str cs).toList==[])=false:=text_there (by rw [HL.out];exact h1)
  have z1:(1:Int)≤(l:Int):=by omega
  by_cases h3:cs=[46]
  ·have HR:Hid (nameB cs=false):=by subst h3;rfl
   have e1:((str cs).toList==[46])=true:=by rw [htl,h3];rfl
   clear htl h3
   go_enter Tryz.func24,Tryz.ntmps24
   go_wp2
   go_ret
   exact ⟨by rw [HR.out];rfl,rfl⟩
  ·have e1:((str cs).toList==[46])=false:=by rw [htl];exact list_other h3
   by_cases h4:cs=[46,46]
   ·have HR:Hid (nameB cs=false):=by subst h4;rfl
    have e2:((str cs).toList==[46,46])=true:=by rw [htl,h4];rfl
    clear htl h3 h4
    go_enter Tryz.func24,Tryz.ntmps24
    go_wp2
    go_ret
    exact ⟨by rw [HR.out];rfl,rfl⟩
   ·have e2:((str cs).toList==[46,46])=false:=by rw [htl];exact list_other h4
    have H3:=Lib.hid h3
    have H4:=Lib.hid h4
    clear htl h3 h4
    by_cases h2:64<l
    ·have HR : Hid (nameB cs = false) := by
      unfold Hid
      rw [nameB_eq,HL.out]
      simp [show ¬ (l≤64) from by omega]
     have z2:(64:Int)<(l:Int):=by omega
     go_enter Tryz.func24,Tryz.ntmps24
     go_wp2
     go_ret
     exact ⟨by rw [HR.out];rfl,rfl⟩
    ·have z2:(l:Int)≤64:=by omega
     go_enter Tryz.func24,Tryz.ntmps24
     go_wp2
     clear e0 e0' e1 e2
     go_loop [21] (fun i=>∃ k:Nat,k≤l∧i=.int .i64 k∧∀ (j:Nat) (c:UInt8),j<k→cs[j]?=some c→okc c=true) (fun i=>l - (intOf i).toNat)
     case atStart=>exact ⟨0,by omega,rfl,fun j c hj=>by omega⟩
     case round =>
      obtain ⟨k,hk,rfl,hok⟩:=hrel
      have HOK:=Lib.hid hok
      clear hok
      have k0:(0:Int)≤(k:Int):=by omega
      by_cases hlt:k<l
      ·have k1:(k:Int)<(l:Int):=by omega
       have hkc:k<cs.length:=by rw [HL.out];exact hlt
       have hix:=index_str cs k hkc
       obtain ⟨x,hx⟩:∃ x,cs.getD k 0=x:=⟨_,rfl⟩
       have hx':cs[k]?=some x:=by rw [← hx,List.getD_eq_getElem?_getD,List.getElem?_eq_getElem hkc];rfl
       rw [hx] at hix
       have HX:=Lib.hid hx'
       clear hx hx' hkc
       rcases okc_cases x with ⟨ho,c1⟩ | ⟨ho,c1,c2⟩ | ⟨ho,c1,c2,c3⟩ | ⟨ho,c1,c2,c3⟩
       ·have HR:Hid (nameB cs=false):=nameB_bad HX.out ho
        clear ho
        generalize bi x=y at *
        go_wp2
        go_ret
        exact ⟨by rw [HR.out];rfl,rfl⟩
       ·have HR:Hid (nameB cs=false):=nameB_bad HX.out ho
        clear ho
        generalize bi x=y at *
        go_wp2
        go_ret
        exact ⟨by rw [HR.out];rfl,rfl⟩
       ·have HR:Hid (nameB cs=false):=nameB_bad HX.out ho
        have hy:bi x=47:=by subst c3;unfold bi;rfl
        rw [hy] at hix c1 c2
        clear ho c3 hy
        go_wp2
        go_ret
        exact ⟨by rw [HR.out];rfl,rfl⟩
       ·have HO:=Lib.hid ho
        clear ho
        generalize bi x=y at *
        go_wp2
        go_round
        case rel =>
         refine ⟨k+1,by omega,by go_num,fun j c hj hc=>?_⟩
         by_cases e:j=k
         ·subst e;rw [HX.out] at hc;injection hc with hc;subst hc;exact HO.out
         ·exact HOK.out j c (by omega) hc
        case measure=>simp [intOf];omega
      ·have HR : Hid (nameB cs = true) := by
        unfold Hid
        refine nameB_good (by rw [HL.out];omega) (by rw [HL.out];omega) (list_other H3.out) (list_other H4.out) (fun j c hc=>HOK.out j c ?_ hc)
        have:=(List.getElem?_eq_some_iff.1 hc).1
        rw [HL.out] at this
        omega
       obtain rfl:k=l:=by omega
       go_wp2
       go_ret
       exact ⟨by rw [HR.out];rfl,rfl⟩
set_option maxRecDepth 100000 in
set_option maxHeartbeats 400000 in
theorem whas_any (v:Value) (xs:List ByteArray) (s:ByteArray) (w:World) (h:SlV w v (xs.map sv)):Calls Tryz.prog 169 #[v,.string s] w fun e w'=>e=.returned (.bool (hasT xs s))∧w=w':=by
 obtain ⟨A,c,rfl,hlc,hcm,hR⟩:=h.len
 rw [List.length_map] at hlc hR ⊢
 have HR:=Lib.hid hR
 unfold maxLen at hcm
 obtain ⟨l,hl⟩:∃ l,xs.length=l:=⟨_,rfl⟩
 rw [hl] at hlc ⊢
 have HL:=Lib.hid hl
 obtain ⟨t,ht⟩:∃ t,hasT xs s=t:=⟨_,rfl⟩
 rw [ht]
 have HT:=Lib.hid ht
 clear h hR hl ht
 go_enter Tryz.func169,Tryz.ntmps169
 go_wp2
 go_loop [9] (fun i=>∃ k:Nat,k≤l∧i=.int .i64 k∧s∉xs.take k) (fun i=>l - (intOf i).toNat)
 case atStart=>exact ⟨0,Nat.zero_le _,rfl,by simp⟩
 case round =>
  obtain ⟨k,hk,rfl,hno⟩:=hrel
  have HNO:=Lib.hid hno
  clear hno
  by_cases hlt:k<l
  ·have hkl:k<xs.length:=by rw [HL.out];exact hlt
   obtain ⟨ad,rfl,hcell⟩:=texts_at HR.out k hkl
   have HX:=Lib.hid (show xs.take (k+1)=xs.take k++[xs[k]] from List.take_succ_eq_append_getElem hkl)
   have HMEM:=Lib.hid (show xs[k]∈xs from List.getElem_mem hkl)
   generalize xs[k]=x at *
   clear hkl
   by_cases he:x=s
   ·subst he
    have htt:t=true:=by rw [← HT.out];exact hasT_yes HMEM.out
    subst htt
    go_wp2
    go_ret
    exact ⟨rfl,rfl⟩
   ·have hne:=toList_ne he
    go_wp2
    go_round
    case rel =>
     refine ⟨k+1,by omega,by go_num,?_⟩
     rw [HX.out,List.mem_append,List.mem_singleton]
     rintro (hh | hh)
     ·exact HNO.out hh
     ·exact he hh.symm
    case measure=>simp [intOf];omega
  ·have htt : t = false := by
    rw [← HT.out]
    have:=HNO.out
    rw [List.take_of_length_le (by rw [HL.out];omega)] at this
    exact hasT_no this
   subst htt
   go_wp2
   go_ret
   exact ⟨rfl,rfl⟩
end Go.Proofs.YtlkolcokjmlmjaaGreat.Tx
namespace Go.Proofs.YtlkolcokjmlmjaaGreat.Tx
open Go.RowKit Go.Proofs.YtlkolcokjmlmjaaGreat.Sh
set_option maxRecDepth 100000 in
set_option maxHeartbeats 800000 in
theorem pieces_any (cs:List UInt8) (w:World) (hn:cs.length≤1000000):Calls Tryz.prog 157 #[.string (str cs)] w (TextsPost w ((splitL 47 cs).map str)):=by
 have hsz:=str_size cs
 obtain ⟨l,hL⟩:∃ l,cs.length=l:=⟨_,rfl⟩
 rw [hL] at hsz hn
 have HL:=Lib.hid hL
 clear hL
 go_enter Tryz.func157,Tryz.ntmps157
 go_wp2_with fail
 go_loopw [3, 4, 8] (fun v fr i wr => ∃ (k f : Nat) (ps : List (List UInt8)), k ≤ l ∧ f ≤ k ∧ ps.length ≤ f ∧ i = .int .i64 k ∧ fr = .int .i64 f ∧ (∀ j, f ≤ j → j < k → cs[j]? ≠ some 47) ∧
   splitL 47 cs=ps++splitL 47 (cs.drop f)∧OwnV 9 wr w.heap.size v ((ps.map str).map sv)∧Below w.heap.size w wr) (fun _ _ i _=>l - (intOf i).toNat)
 case atStart=>exact ⟨0,0,[],by omega,by omega,by simp,rfl,rfl,fun j h1 h2=>by omega,by simp,OwnV.nil_ _ _,Below.refl _ _⟩
 case round =>
  obtain ⟨k,f,ps,hk,hf,hpl,rfl,rfl,hno,hs,ho,hb⟩:=hrel
  have HO:=Lib.hid ho
  have HB:=Lib.hid hb
  have HNO:=Lib.hid hno
  have HS:=Lib.hid hs
  have hwz:=hb.size
  clear ho hb hno hs
  have k0:(0:Int)≤(k:Int):=by omega
  have f0:(0:Int)≤(f:Int):=by omega
  have fk:(f:Int)≤(k:Int):=by omega
  have hsm:(ps.map str).length+1≤2000000:=by rw [List.length_map];omega
  by_cases hlt:k<l
  ·have k1:(k:Int)<(l:Int):=by omega
   have k2:(k:Int)≤(l:Int):=by omega
   have hkc:k<cs.length:=by rw [HL.out];exact hlt
   have hix:=index_str cs k hkc
   obtain ⟨x,hx⟩:∃ x,cs.getD k 0=x:=⟨_,rfl⟩
   have hx':cs[k]?=some x:=by rw [← hx,List.getD_eq_getElem?_getD,List.getElem?_eq_getElem hkc];rfl
   rw [hx] at hix
   have HX:=Lib.hid hx'
   clear hx hx' hkc
   by_cases hg:x=47
   ·subst hg
    rw [bi47] at hix
    go_wp2_with (at_builtin;refine append_text rfl (.tmp 15) (.tmp 20) rfl wr w.heap.size u3 (ps.map str) rfl HO.out ((str cs).extract f k) rfl hsm hwz ?_;intro v3 w3 ho3 hb3;have HO3:=Lib.hid ho3;have HB3:=Lib.hid hb3;clear ho3 hb3)
    go_roundw
    case rel =>
     have hlk:k<cs.length:=by rw [HL.out];exact hlt
     refine ⟨k+1,k+1,ps++[(cs.take k).drop f],by omega,by omega,by simp;omega,by go_num,by go_num,fun j h1 h2=>by omega,?_,?_,HB.out.trans (HB3.out.mono (Nat.le_refl _))⟩
     ·rw [HS.out,drop_cut cs f k hf hlk]
      have hx2:cs[k]=47:=by have:=HX.out;rw [List.getElem?_eq_getElem hlk] at this;injection this
      rw [hx2,splitL_cut (not_mem_cut HNO.out),List.append_assoc]
      rfl
     ·have:=HO3.out
      rw [slice_str] at this
      simpa using this
    case measure=>simp [intOf];omega
   ·have e1:(bi x==47)=false:=by rw [← bi47,beq_eq_false_iff_ne];exact fun e=>hg (bi_inj e)
    generalize bi x=y at *
    go_wp2
    go_roundw
    case rel =>
     refine ⟨k+1,f,ps,by omega,by omega,hpl,by go_num,rfl,fun j h1 h2=>?_,HS.out,HO.out,HB.out⟩
     by_cases hj:j=k
     ·subst hj;rw [HX.out];exact fun e=>hg (by injection e)
     ·exact HNO.out j h1 (by omega)
    case measure=>simp [intOf];omega
  ·obtain rfl:k=l:=by omega
   go_wp2_with (at_builtin;refine append_text rfl (.tmp 25) (.tmp 29) rfl wr w.heap.size u3 (ps.map str) rfl HO.out ((str cs).extract f k) rfl hsm hwz ?_;intro v3 w3 ho3 hb3;have HO3:=Lib.hid ho3;have HB3:=Lib.hid hb3;clear ho3 hb3)
   go_ret
   refine ⟨v3,rfl,?_,HB.out.trans (HB3.out.mono (Nat.le_refl _))⟩
   have h1:=not_mem_cut HNO.out
   have h2:=HO3.out
   rw [slice_str] at h2
   rw [List.take_of_length_le (by rw [HL.out];exact Nat.le_refl _)] at h1 h2
   rw [HS.out,splitL_none h1]
   simpa using h2
theorem namesL_no {s:List UInt8} (h:pathB s=false):namesL s=[]:=by unfold namesL;rw [if_neg (by rw [h];decide)]
theorem namesL_yes {s:List UInt8} (h:pathB s=true):namesL s=splitL 47 s:=by unfold namesL;rw [if_pos h]
theorem names_pos (s:List UInt8):decide (0<(namesL s).length)=pathB s:=by
 cases h:pathB s with
 | false=>rw [namesL_no h];rfl
 | true =>
  rw [namesL_yes h,splitL_length]
  simp
theorem pathB_deep {s:List UInt8} (h:8<(splitL 47 s).length):pathB s=false:=by
 unfold pathB
 simp [show ¬ ((splitL 47 s).length≤8) from by omega]
set_option maxRecDepth 100000 in
set_option maxHeartbeats 1600000 in
theorem nsplit_big (cs:List UInt8) (w:World) (hn:cs.length≤100000000):Calls Tryz.prog 134 #[.string (str cs)] w (TextsPost w ((namesL cs).map str)):=by
 have hsz:=str_size cs
 obtain ⟨l,hL⟩:∃ l,cs.length=l:=⟨_,rfl⟩
 rw [hL] at hsz hn
 have HL:=Lib.hid hL
 have n0:(0:Int)≤(l:Int):=by omega
 clear hL
 by_cases h1:200<l
 ·have HR:Hid (namesL cs=[]):=namesL_no (pathB_long (by rw [HL.out];exact h1))
  have z1:(200:Int)<(l:Int):=by omega
  go_enter Tryz.func134,Tryz.ntmps134
  go_wp2
  go_ret
  exact ⟨_,rfl,by rw [HR.out];exact OwnV.nil_ _ _,Below.refl _ _⟩
 ·have z1:(l:Int)≤200:=by omega
  have h200:l≤200:=by omega
  clear h1
  go_enter Tryz.func134,Tryz.ntmps134
  go_wp2_with fail
  refine (pieces_any cs _ (by rw [HL.out];omega)).mono ?_
  rintro e w1 ⟨v,rfl,ho,hb⟩
  obtain ⟨A,c,rfl,hlc,hcm⟩:=ho.length
  obtain ⟨n,hN⟩:∃ n,(splitL 47 cs).length=n:=⟨_,rfl⟩
  rw [List.length_map,List.length_map,hN] at ho hlc ⊢
  unfold maxLen at hcm
  have hn201:n≤201:=by rw [← hN];have:=splitL_length_le 47 cs;rw [HL.out] at this;omega
  have HN:=Lib.hid hN
  have HO:=Lib.hid ho
  have HB:=Lib.hid hb
  clear ho hb hN
  by_cases h8:8<n
  ·have HR:Hid (namesL cs=[]):=namesL_no (pathB_deep (by rw [HN.out];exact h8))
   have z8:(8:Int)<(n:Int):=by omega
   go_wp2
   go_ret
   exact ⟨_,rfl,by rw [HR.out];exact OwnV.nil_ _ _,HB.out⟩
  ·have z8:(n:Int)≤8:=by omega
   go_wp2_with fail
   go_loop [16] (fun i=>∃ k:Nat,k≤n∧i=.int .i64 k∧∀ (j:Nat) (hj:j<(splitL 47 cs).length),j<k→nameB (splitL 47 cs)[j]=true) (fun i=>n - (intOf i).toNat)
   case atStart=>exact ⟨0,by omega,rfl,fun j _ hj=>by omega⟩
   case round =>
    obtain ⟨k,hk,rfl,hok⟩:=hrel
    have HOK:=Lib.hid hok
    clear hok
    have k0:(0:Int)≤(k:Int):=by omega
    by_cases hlt:k<n
    ·have k1:(k:Int)<(n:Int):=by omega
     have hkp:k<(splitL 47 cs).length:=by rw [HN.out];exact hlt
     obtain ⟨ad,rfl,hcell⟩:=piece_at HO.out k hkp
     have hpl:=piece_len (List.getElem_mem hkp)
     obtain ⟨p,hp⟩:∃ p,(splitL 47 cs)[k]=p:=⟨_,rfl⟩
     rw [hp] at hcell hpl
     have HP:=Lib.hid hp
     rw [HL.out] at hpl
     clear hp
     go_wp2_with fail
     refine (cname_any p _ (by omega)).mono ?_
     rintro e w2 ⟨rfl,rfl⟩
     obtain ⟨t,ht⟩:∃ t,nameB p=t:=⟨_,rfl⟩
     rw [ht]
     have HT:=Lib.hid ht
     clear ht
     cases t with
     | false =>
      have HR:Hid (namesL cs=[]):=namesL_no (pathB_bad hkp (by rw [HP.out];exact HT.out))
      go_wp2
      go_ret
      exact ⟨_,rfl,by rw [HR.out];exact OwnV.nil_ _ _,HB.out⟩
     | true =>
      go_wp2
      go_round
      case rel =>
       refine ⟨k+1,by omega,by go_num,fun j hj hjk=>?_⟩
       by_cases e:j=k
       ·subst e;rw [HP.out];exact HT.out
       ·exact HOK.out j hj (by omega)
      case measure=>simp [intOf];omega
    ·obtain rfl:k=n:=by omega
     have HR:Hid (namesL cs=splitL 47 cs):=by
      refine namesL_yes ?_
      rw [pathB_good (by rw [HL.out];exact h200) (fun j hj=>HOK.out j hj (by rw [HN.out] at hj;exact hj)),HN.out]
      simp;omega
     go_wp2
     go_ret
     refine ⟨_,rfl,?_,HB.out⟩
     rw [HR.out]
     exact HO.out
set_option maxRecDepth 100000 in
set_option maxHeartbeats 400000 in
theorem npath_big (cs:List UInt8) (w:World) (hn:cs.length≤100000000):Calls Tryz.prog 103 #[.string (str cs)] w (BoolPost w (pathB cs)):=by
 have hp:=names_pos cs
 have hf:=namesL_few cs
 go_enter Tryz.func103,Tryz.ntmps103
 go_wp2_with fail
 refine (nsplit_big cs _ hn).mono ?_
 rintro e w1 ⟨v,rfl,ho,hb⟩
 obtain ⟨A,c,rfl,hlc,hcm⟩:=ho.length
 unfold maxLen at hcm
 have HB:=Lib.hid hb
 rw [List.length_map,List.length_map] at hlc ⊢
 obtain ⟨n,hN⟩:∃ n,(namesL cs).length=n:=⟨_,rfl⟩
 rw [hN] at hp hlc hf ⊢
 have HP:=Lib.hid hp
 clear ho hb hN hp
 go_wp2
 go_ret
 exact ⟨by rw [← HP.out];rfl,HB.out⟩
theorem npath_any (cs:List UInt8) (w:World) (hn:cs.length≤1000000):Calls Tryz.prog 103 #[.string (str cs)] w (BoolPost w (pathB cs)):=npath_big cs w (by omega)
set_option maxRecDepth 100000 in
set_option maxHeartbeats 1600000 in
theorem nparents_any (cs:List UInt8) (w:World) (hn:cs.length≤1000000):Calls Tryz.prog 152 #[.string (str cs)] w (TextsPost w ((parentsL cs).map str)):=by
 have hsz:=str_size cs
 obtain ⟨t,ht⟩:∃ t,pathB cs=t:=⟨_,rfl⟩
 have HT:=Lib.hid ht
 clear ht
 cases t with
 | false =>
  have HP:Hid (parentsL cs=[]):=by unfold Hid parentsL;rw [HT.out];rfl
  go_enter Tryz.func152,Tryz.ntmps152
  go_wp2_with fail
  refine (npath_any cs _ hn).mono ?_
  rintro e w1 ⟨rfl,hb⟩
  rw [HT.out]
  have HB:=Lib.hid hb
  clear hb
  go_wp2_with fail
  go_ret
  exact ⟨_,rfl,by rw [HP.out];exact OwnV.nil_ _ _,HB.out⟩
 | true =>
  have HP:Hid (parentsL cs=parP cs cs.length):=by unfold Hid parentsL;rw [HT.out];rfl
  obtain ⟨l,hL⟩:∃ l,cs.length=l:=⟨_,rfl⟩
  rw [hL] at hsz hn
  have HL:=Lib.hid hL
  clear hL
  go_enter Tryz.func152,Tryz.ntmps152
  go_wp2_with fail
  refine (npath_any cs _ (by rw [HL.out];exact hn)).mono ?_
  rintro e w1 ⟨rfl,hb⟩
  rw [HT.out]
  have HB:=Lib.hid hb
  clear hb
  go_wp2_with fail
  go_loopw [3,10] (fun v i wr=>∃ k:Nat,k≤l∧i=.int .i64 k∧OwnV 9 wr w.heap.size v (((parP cs k).map str).map sv)∧Below w.heap.size w wr) (fun _ i _=>l - (intOf i).toNat)
  case atStart=>exact ⟨0,by omega,rfl,OwnV.nil_ _ _,HB.out⟩
  case round =>
   clear HB
   obtain ⟨k,hk,rfl,ho,hb⟩:=hrel
   have HO:=Lib.hid ho
   have HB:=Lib.hid hb
   have hwz:=hb.size
   clear ho hb
   have k0:(0:Int)≤(k:Int):=by omega
   by_cases hlt:k<l
   ·have k1:(k:Int)<(l:Int):=by omega
    have k2:(k:Int)≤(l:Int):=by omega
    have hkc:k<cs.length:=by rw [HL.out];exact hlt
    have hix:=index_str cs k hkc
    obtain ⟨x,hx⟩:∃ x,cs.getD k 0=x:=⟨_,rfl⟩
    have hx':cs[k]?=some x:=by rw [← hx,List.getD_eq_getElem?_getD,List.getElem?_eq_getElem hkc];rfl
    rw [hx] at hix
    have HX:=Lib.hid hx'
    clear hx hx' hkc
    by_cases h3:x=47
    ·subst h3
     rw [bi47] at hix
     have hnx:Hid (parP cs (k+1)=parP cs k++[cs.take k]):=by unfold Hid;rw [parP,if_pos HX.out]
     have hsm:((parP cs k).map str).length+1≤2000000:=by rw [List.length_map];have:=parP_len cs k;omega
     go_wp2_with (at_builtin;refine append_text rfl (.tmp 17) (.tmp 21) rfl wr w.heap.size u3 ((parP cs k).map str) rfl HO.out ((str cs).extract 0 k) rfl hsm hwz ?_;intro v3 w3 ho3 hb3;have HO3:=Lib.hid ho3;have HB3:=Lib.hid hb3;clear ho3 hb3)
     go_roundw
     case rel =>
      refine ⟨k+1,by omega,by go_num,?_,HB.out.trans (HB3.out.mono (Nat.le_refl _))⟩
      have:=HO3.out
      rw [slice_str,List.drop_zero] at this
      rw [hnx.out]
      simpa using this
     case measure=>simp [intOf];omega
    ·have hnx : Hid (parP cs (k + 1) = parP cs k) := by
      unfold Hid
      rw [parP,if_neg (by rw [HX.out];exact fun e=>h3 (by injection e))]
     have e3:(bi x==47)=false:=by rw [← bi47,beq_eq_false_iff_ne];exact fun e=>h3 (bi_inj e)
     generalize bi x=y at *
     clear h3
     go_wp2
     go_roundw
     case rel=>exact ⟨k+1,by omega,by go_num,by rw [hnx.out];exact HO.out,HB.out⟩
     case measure=>simp [intOf];omega
   ·obtain rfl:k=l:=by omega
    go_wp2
    go_ret
    exact ⟨u3,rfl,by rw [HP.out,HL.out];exact HO.out,HB.out⟩
theorem str_mem {l:List (List UInt8)} {d:List UInt8}:str d∈l.map str↔d∈l:=by
 constructor
 ·intro h
  obtain ⟨x,hx,e⟩:=List.mem_map.1 h
  rw [← str_inj e]
  exact hx
 ·intro h
  exact List.mem_map.2 ⟨d,h,rfl⟩
theorem under_has (d s:List UInt8):hasT ((parentsL s).map str) (str d)=underB d s:=by
 rw [Bool.eq_iff_iff,hasT_iff,under_iff,str_mem]
theorem nunder_any (ds cs:List UInt8) (w:World) (_hd:ds.length≤1000000) (hn:cs.length≤1000000):Calls Tryz.prog 153 #[.string (str ds),.string (str cs)] w (BoolPost w (underB ds cs)):=by
 go_enter Tryz.func153,Tryz.ntmps153
 go_wp2_with fail
 refine (nparents_any cs _ hn).mono ?_
 rintro e w1 ⟨v,rfl,ho,hb⟩
 have HO:=Lib.hid ho.slv
 have HB:=Lib.hid hb
 clear ho hb
 go_wp2_with fail
 refine (whas_any v _ (str ds) _ HO.out).mono ?_
 rintro e w2 ⟨rfl,rfl⟩
 rw [under_has]
 go_wp2_with fail
 go_ret
 exact ⟨rfl,HB.out⟩
end Go.Proofs.YtlkolcokjmlmjaaGreat.Tx
namespace Go.Proofs.YtlkolcokjmlmjaaGreat.Tx
open Go.RowKit Go.Maps Go.Proofs.YtlkolcokjmlmjaaGreat.Sh
theorem zeroI (w:World):(zeroValue 3).run Tryz.prog w=.ok (.int .i64 0) w:=by kernel_rfl
structure DirsU (F:Nat→Prop) (w w2:World) (bu:Nat) (c:List UInt8→Nat):Prop where
 own:∃ D,OwnU w2 bu D∧UnderOK c D
 only:Only (fun k=>k=bu) w w2
theorem grown_only {M:Nat→Prop} {w w':World} {g:Nat} (h:w.grownBy w' (some g)) (hg:M g):Only M w w':=⟨h.os,h.tape,h.output,h.size,fun k hk hn=>h.block k hk (fun e=>hn (by cases e;exact hg))⟩
theorem DirsU.more {F:Nat→Prop} {w w2 w3:World} {bu:Nat} {c c':List UInt8→Nat} {D:DataW Unit} (h:DirsU F w w2 bu c) (hu:UnderOK c D) (hm:Maps.IsMap D) {n:Nat} {v:Int} {q:List UInt8} (hown:w3.ownsMap Tryz.prog 9 (plainElem Tryz.prog 3) bu n (D.put (.string q) (.lit (.int .i64 v)))) (hg:w2.grownBy w3 (some bu)) (hv:v=((c q+1:Nat):Int)) (hc:∀ p,c' p=c p+if p=q then 1 else 0):DirsU F w w3 bu c':=by
 subst hv
 refine ⟨⟨_,own_exact hown,hu.put hm q (c q+1) (by omega) (by rw [hc,if_pos rfl]) (fun p hp=>by rw [hc,if_neg hp];rfl)⟩,h.only.trans (M':=fun k=>k=bu) (grown_only hg rfl) (fun k hk=>.inl hk)⟩
theorem wrap_ok {x:Int} (h0:-9223372036854775808≤x) (h1:x≤9223372036854775807):IntKind.i64.wrap x=x:=by rw [IntKind.wrap_i64];omega
theorem count_take {l:List (List UInt8)} {k:Nat} {q p:List UInt8} (hq:l[k]?=some q):(l.take (k+1)).count p=(l.take k).count p+if p=q then 1 else 0:=by
 rw [List.take_add_one,hq,List.count_append]
 congr 1
 show List.count p [q]=_
 rw [List.count_singleton]
 by_cases h:p=q
 ·subst h;simp
 ·rw [if_neg h,if_neg (by simpa using fun e=>h e.symm)]
theorem TreeX.put {F : Nat → Prop} {w w1 w2 w3 : World} {t bf bu : Nat} {R : List RowM} {p : List UInt8} {f : FileM} {d : Value} {D : DataW Value} {n : Nat} (h : TreeX F w t R bf bu) (hF : ∀ k, F k → ¬ treeM t bf bu k) (hd : By F w d f.data) (hno : standsM R p = false)
  (hD:FilesOK F w R D) (hm:Maps.IsMap D) (hown:w1.ownsMap Tryz.prog 9 hv bf n (D.put (.string p) (.held (fileV f d)))) (ho1:Only (fun k=>k=bf) w w1) (ho2:Only (fun k=>k=t) w1 w2) (hb:Blk w2 t 115 #[.map (some bf),.map (some bu),.int .i64 (usedM R+f.data.length:Nat)])
  (hU:DirsU F w2 w3 bu (fun q=>cntM R q+(parentsL p).count q)):TreeX F w3 t (withM R p f) bf bu∧Only (treeM t bf bu) w w3:=by
 have hw:withoutM R p=R:=without_none (stands_no.1 hno)
 have ho3:=hU.only
 have hon:Only (treeM t bf bu) w w3:=((ho1.more (M':=treeM t bf bu) (fun k _ e=>.inr (.inl e))).trans (ho2.more (M':=treeM t bf bu) (fun k _ e=>.inl e)) (fun k hk=>.inl hk)).trans (ho3.more (M':=treeM t bf bu) (fun k _ e=>.inr (.inr e))) (fun k hk=>.inl hk)
 refine ⟨⟨?_,⟨_,own_only (own_only (own_exact hown) ho2 h.f_ne) ho3 h.ne,?_⟩,?_,h.ne,with_ord h.ord p f⟩,hon⟩
 ·rw [used_with,hw]
  exact ho3.blk hb (fun e=>h.u_ne e.symm)
 ·have:=(hD.put hm (p:=p) (f:=f) hd)
  exact this.only hon hF
 ·obtain ⟨E,h1,h2⟩:=hU.own
  refine ⟨E,h1,fun q=>?_⟩
  rw [cnt_with,hw]
  exact h2 q
set_option maxRecDepth 100000 in
set_option maxHeartbeats 3200000 in
theorem tput_any (F : Nat → Prop) (t bf bu : Nat) (R : List RowM) (p : List UInt8) (f : FileM) (d : Value) (w : World) (h : TreeX F w t R bf bu) (hd : By F w d f.data) (hF : ∀ k, F k → ¬ treeM t bf bu k) (hno : standsM R p = false) (hp : p.length ≤ 1000000) (hR : R.length ≤ 1000000) (hu : usedM R ≤ 4000000000000) (hdl : f.data.length ≤ 1000000) :
  Calls Tryz.prog 155 #[.pointer (some ⟨t,0,none⟩),.string (str p),fileV f d] w fun e w'=>e=.returned (.tuple #[])∧TreeX F w' t (withM R p f) bf bu∧Only (treeM t bf bu) w w':=by
 obtain ⟨dA,dc,rfl,_,_⟩:=hd.slice
 unfold fileV
 obtain ⟨wb,hwb⟩:∃ wb,wb=w.alloc (.cells #[.int .i64 f.mode,.slice dA f.data.length dc,.int .i64 f.time] 91):=⟨_,rfl⟩
 have hB:Below w.heap.size w wb:=by rw [hwb];exact (Below.refl _ _).alloc (Nat.le_refl _) _
 have hbox:Blk wb w.heap.size 91 #[.int .i64 f.mode,.slice dA f.data.length dc,.int .i64 f.time]:=by rw [hwb];exact Blk.new _ _ _
 have hX:=h.below hB
 have hd1:=hd.only (Only.of_below (M:=fun _=>False) hB) (fun _ _=>id)
 have htl:t<w.heap.size:=h.lt t (.inl rfl)
 have hfl:bf<w.heap.size:=h.lt bf (.inr (.inl rfl))
 obtain ⟨D,hown,hfo⟩:=hX.files
 have hsz:=(hfo.keys hown hX.ord).2
 obtain ⟨u,hu'⟩:∃ u,usedM R=u:=⟨_,rfl⟩
 obtain ⟨l,hl'⟩:∃ l,f.data.length=l:=⟨_,rfl⟩
 have hblk:=hX.blk
 rw [hu'] at hblk hu
 rw [hl'] at hdl hbox hwb ⊢
 have c0:wb.cell? ⟨t,0,none⟩=some (.map (some bf)):=hblk.cell 0
 have c1:wb.cell? ⟨t,1,none⟩=some (.map (some bu)):=hblk.cell 1
 have b0:wb.cell? ⟨w.heap.size,0,none⟩=some (.int .i64 f.mode):=hbox.cell 0
 have b1:wb.cell? ⟨w.heap.size,1,none⟩=some (.slice dA l dc):=hbox.cell 1
 have b2:wb.cell? ⟨w.heap.size,2,none⟩=some (.int .i64 f.time):=hbox.cell 2
 have HX:=Lib.hid hX
 have HB:=Lib.hid hB
 have HBOX:=Lib.hid hbox
 have HOWN:=Lib.hid hown
 have HFO:=Lib.hid hfo
 have HSZ:Hid (Maps.size D<maxLen):=by unfold Hid;rw [hsz];unfold maxLen;omega
 have HKEY:=Lib.hid (key_str p hp)
 have HD:=Lib.hid hd1
 have HU:=Lib.hid hu'
 have HL:=Lib.hid hl'
 have HTL:=Lib.hid htl
 have HFL:=Lib.hid hfl
 have HBLK:=Lib.hid hblk
 have HM:Hid (Maps.IsMap D):=hown.isMap
 have HR:=Lib.hid hR
 clear hX hB hbox hown hfo hsz hd1 hu' hl' htl hfl hblk h hd hR
 go_enter Tryz.func155,Tryz.ntmps155
 go_upto_region 1 with (fail)
 rw [← hwb]
 clear hwb
 go_still_tail 6,(by kernel_rfl)
 change wpList _ _ _ _ _ wb.drew
 go_wp2_with (at_mapUpdate;refine wpList_mapUpdate_own _ rfl _ _ _ 112 rfl 9 91 lawS Tryz.underlying112 hv bf _ D rfl (by exact HOWN.out) (by exact HSZ.out) _ _ (.string p) rfl rfl (by exact HKEY.out) (.held (.agg #[.int .i64 f.mode,.slice dA l dc,.int .i64 f.time])) [] rfl ?_;intro w1 hown1 hgrow1;have HOWN1:=Lib.hid hown1;have HG1:=Lib.hid hgrow1;clear hown1 hgrow1)
 have hne1:some t≠some bf:=fun e=>HX.out.f_ne (by injection e with e;exact e.symm)
 have hblk1:=HBLK.out.drew.grown HG1.out hne1
 have hbox1:=HBOX.out.drew.grown HG1.out (fun e=>by injection e with e;have:=HFL.out;omega)
 have o1:Only (fun k=>k=bf) wb w1:=(Only.refl _ wb).drew.trans (M':=fun k=>k=bf) (grown_only HG1.out rfl) (fun k hk=>.inl hk)
 have c2:w1.cell? ⟨t,2,none⟩=some (.int .i64 u):=hblk1.cell 2
 have c2f:w1.frozen? ⟨t,2,none⟩=false:=hblk1.frozen 2
 have e1:w1.cell? ⟨w.heap.size,1,none⟩=some (.slice dA l dc):=hbox1.cell 1
 have HBLK1:=Lib.hid hblk1
 have HO1:=Lib.hid o1
 have u0:(0:Int)≤(u:Int):=by omega
 have u1:(u:Int)≤4000000000000:=by omega
 have l0:(0:Int)≤(l:Int):=by omega
 have l1:(l:Int)≤1000000:=by omega
 clear hne1 hblk1 hbox1 o1 c0 c1 b0 b1 b2 hu hdl
 go_still_tail 10,(by kernel_rfl)
 change wpList _ _ _ _ _ w1.drew
 go_wp2_with fail
 have hblk2:Blk ((w1.setCell ⟨t,2,none⟩ (.int .i64 ((u:Int)+(l:Int)))).drew) t 115 #[.map (some bf),.map (some bu),.int .i64 ((u:Int)+(l:Int))]:=(HBLK1.out.set_ 2 (.int .i64 ((u:Int)+(l:Int)))).drew
 have o2:Only (fun k=>k=t) w1 ((w1.setCell ⟨t,2,none⟩ (.int .i64 ((u:Int)+(l:Int)))).drew):=(Only.set_ (M:=fun k=>k=t) (g:=t) (i:=2) (Only.refl _ w1) (.inl rfl) _).drew
 generalize (w1.setCell ⟨t,2,none⟩ (.int .i64 ((u:Int)+(l:Int)))).drew=w2 at *
 refine (nparents_any p _ hp).mono ?_
 rintro e w3 ⟨v,rfl,ho3,hb3⟩
 have HB3:=Lib.hid hb3
 have HBLK3:=Lib.hid (hblk2.below hb3 hblk2.lt)
 have HO3:=Lib.hid (o2.then_below hb3)
 obtain ⟨pA,pc,rfl,pl1,pl2⟩:=ho3.length
 simp only [List.length_map] at pl1 ⊢
 have HP:=Lib.hid ho3
 have hw2z:bu<w2.heap.size:=Nat.lt_of_lt_of_le (HX.out.lt bu (.inr (.inr rfl))) (Nat.le_trans HO1.out.size o2.size)
 have HW2:=Lib.hid hw2z
 clear hw2z
 obtain ⟨m,hm⟩:∃ m,(parentsL p).length=m:=⟨_,rfl⟩
 have hm7:m≤7:=by rw [← hm];exact parents_few p
 rw [hm] at pl1 ⊢
 have HMM:=Lib.hid hm
 have c1:w3.cell? ⟨t,1,none⟩=some (.map (some bu)):=HBLK3.out.cell 1
 have HC1:=Lib.hid c1
 clear hblk2 o2 ho3 hb3 hm c1 c2 c2f e1
 have hu3:DirsU F w3 w3 bu (cntM R):=by
  obtain ⟨E,h1,h2⟩:=HX.out.under
  refine ⟨⟨E,own_only (own_only h1 HO1.out (fun e=>HX.out.ne e.symm)) HO3.out HX.out.u_ne,h2⟩,Only.refl _ _⟩
 have HU3:=Lib.hid hu3
 clear hu3
 go_wp2_with fail
 go_loopw [27] (fun i wr=>∃ k:Nat,k≤m∧i=.int .i64 k∧DirsU F w3 wr bu (fun q=>cntM R q+((parentsL p).take k).count q)) (fun i _=>m - (intOf i).toNat)
 case atStart =>
  exact ⟨0,by omega,rfl,by simpa using HU3.out⟩
 case round =>
  obtain ⟨k,hk,rfl,hdu⟩:=hrel
  have k0:(0:Int)≤(k:Int):=by omega
  have HDU:=Lib.hid hdu
  by_cases hlt:k<m
  ·have k1:(k:Int)<(m:Int):=by omega
   have k2:(k:Int)≤(m:Int):=by omega
   have hkm:k<(parentsL p).length:=by rw [HMM.out];exact hlt
   obtain ⟨q,hq⟩:∃ q,(parentsL p)[k]=q:=⟨_,rfl⟩
   have hqk:(parentsL p)[k]?=some q:=by rw [List.getElem?_eq_getElem hkm,hq]
   have hql:q.length≤1000000:=by
    have:=parents_path (List.mem_of_getElem? hqk)
    have:=((pathB_iff q).1 this).1
    omega
   have hor:Only (fun k=>k=bu) w3 wr:=hdu.only
   have hov:=hor.own HP.out (fun g hg e=>by have:=(HP.out.lt g hg).1;have:=HW2.out;omega)
   obtain ⟨A',c',he,_,_,hrd⟩:=hov.slv.len
   injection he with he1 he2 he3
   subst he1
   simp only [List.length_map] at hrd
   have hkm':k<((parentsL p).map str).length:=by rw [List.length_map];exact hkm
   have hta:=texts_at (xs:=(parentsL p).map str) (by simpa using hrd) k hkm'
   obtain ⟨ad,rfl,hcell⟩:=hta
   have hcell2:wr.cell? (ad.add k)=some (.string (str q)):=by rw [hcell];simp [hq]
   have c1r:wr.cell? ⟨t,1,none⟩=some (.map (some bu)):=(hor.blk HBLK3.out (fun e=>HX.out.u_ne e.symm)).cell 1
   obtain ⟨E,hE1,hE2⟩:=hdu.own
   obtain ⟨cc,hcc⟩:∃ cc,cntM R q+((parentsL p).take k).count q=cc:=⟨_,rfl⟩
   have hat0:E.atKey (.string q) (.lit (.int .i64 0))=.lit (.int .i64 cc):=by rw [← hcc];exact (hE2 q).2
   have hccb:cc≤8000000:=by
    rw [← hcc]
    have h1:=cnt_le R q
    have h2:((parentsL p).take k).count q≤7:=Nat.le_trans List.count_le_length (by rw [List.length_take,HMM.out];omega)
    have:=HR.out
    omega
   have hesz:Maps.size E<maxLen:=by
    have h1:=hE2.small hE1 (ds:=dirsM R++(parentsL p).take k) (fun x=>by rw [List.count_append];exact Nat.le_refl _)
    have h2:=dirs_len R
    have h3:=HR.out
    rw [List.length_append,List.length_take] at h1
    unfold maxLen
    omega
   have HE1:=Lib.hid hE1
   have HE2:=Lib.hid hE2
   have HESZ:=Lib.hid hesz
   have HCC:=Lib.hid hcc
   have HAT:=Lib.hid hat0
   have HKQ:=Lib.hid (key_str q hql)
   have HQK:=Lib.hid hqk
   have hc0:(0:Int)≤(cc:Int):=by omega
   have hc1:(cc:Int)≤8000000:=by omega
   have HIM:Hid (Maps.IsMap E):=hE1.isMap
   clear hor hov hrd hkm' hcell hE1 hE2 hesz hcc hat0 hq hqk hql hkm hccb hdu
   go_wp2_with (first
    | (at_lookup;refine wpList_lookup_own_int _ rfl _ _ 113 rfl 9 3 .i64 lawS Tryz.underlying113 Tryz.underlying3 (zeroI _) bu _ E rfl (by exact HE1.out) _ _ rfl (by exact HKQ.out) ?_;intro c hat hwc;obtain rfl:c=(cc:Int):=(by have h:=hat.symm.trans HAT.out;injection h with h;injection h with h);clear hat hwc)
    | (at_mapUpdate;refine wpList_mapUpdate_own _ rfl _ _ _ 113 rfl 9 3 lawS Tryz.underlying113 _ bu _ E rfl (by exact HE1.out) (by exact HESZ.out) _ _ (.string q) rfl rfl (by exact HKQ.out) _ [] (plainElem_int Tryz.underlying3 (WalkArith.wf_i64 (by omega))) ?_;intro w4 hown4 hgrow4;have HOWN4:=Lib.hid hown4;have HG4:=Lib.hid hgrow4;clear hown4 hgrow4))
   go_roundw
   case rel =>
    refine ⟨_,_,⟨k+1,by omega,rfl,?_⟩,rfl,(wrap_ok (by omega) (by omega)).symm,by simp⟩
    have hv:(cc:Int)+1=((cntM R q+((parentsL p).take k).count q+1:Nat):Int):=by rw [HCC.out];omega
    exact DirsU.more (F:=F) (c':=fun x=>cntM R x+((parentsL p).take (k+1)).count x) HDU.out HE2.out HIM.out HOWN4.out HG4.out hv (fun x=>by show _=cntM R x+_+_;rw [count_take HQK.out,Nat.add_assoc])
   case measure=>simp [intOf];omega
  ·obtain rfl:k=m:=by omega
   have hfin:DirsU F w3 wr bu (fun q=>cntM R q+(parentsL p).count q):=by
    have:=HDU.out
    rw [List.take_of_length_le (Nat.le_of_eq HMM.out)] at this
    exact this
   have HFIN:=Lib.hid hfin
   clear hfin hdu
   go_wp2_with fail
   go_end0
   have hdd:By F wb (.slice dA f.data.length dc) f.data:=HD.out
   rw [HL.out] at hdd
   have:=TreeX.put (d:=.slice dA l dc) (f:=f) (p:=p) HX.out hF (by rw [← HL.out];exact HD.out) hno HFO.out HM.out HOWN1.out HO1.out HO3.out (by rw [HU.out,HL.out];simpa using HBLK3.out) HFIN.out
   exact ⟨rfl,this.1,((Only.of_below HB.out).trans (M':=treeM t bf bu) this.2 (fun k hk=>.inl hk))⟩
end Go.Proofs.YtlkolcokjmlmjaaGreat.Tx
