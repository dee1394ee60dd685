/- Texts put together: VTq0, VTn0, VTn1, VTn2, VTn4, VTn5, VTn6, VTn7, VTn8, VTn9, VTq1, VTq3. -/
import Derived.Test.YtlkolcokjmlmjaaGreatQv01
import GoSem.Op.String
namespace Go.Proofs.YtlkolcokjmlmjaaGreat.Tx
def splitL (g:UInt8):List UInt8→List (List UInt8)
 | []=>[[]]
 | c::r=>if c=g then []::splitL g r else match splitL g r with
  | []=>[[c]]
  | p::ps=>(c::p)::ps
theorem splitL_ne (g:UInt8) (s:List UInt8):splitL g s≠[]:=by
 cases s with
 | nil=>simp [splitL]
 | cons c r =>
  unfold splitL
  split
  ·simp
  ·split <;> simp
theorem splitL_cons_ne {g c:UInt8} (h:c≠g) (r:List UInt8):∃ p ps,splitL g r=p::ps∧splitL g (c::r)=(c::p)::ps:=by
 obtain ⟨p,ps,e⟩:∃ p ps,splitL g r=p::ps:=by
  cases hr:splitL g r with
  | nil=>exact absurd hr (splitL_ne g r)
  | cons p ps=>exact ⟨p,ps,rfl⟩
 refine ⟨p,ps,e,?_⟩
 rw [splitL,if_neg h,e]
theorem splitL_sign (g:UInt8) (r:List UInt8):splitL g (g::r)=[]::splitL g r:=by rw [splitL,if_pos rfl]
theorem splitL_none {g:UInt8}:∀ {l:List UInt8},g∉l→splitL g l=[l]
 | [],_=>rfl
 | c::r,h=>by
  have hc:c≠g:=fun e=>h (by rw [e];exact List.mem_cons_self)
  obtain ⟨p,ps,e1,e2⟩:=splitL_cons_ne hc r
  have:=splitL_none (l:=r) (fun hm=>h (List.mem_cons_of_mem _ hm))
  rw [this] at e1
  injection e1 with e3 e4
  rw [e2,← e3,← e4]
theorem splitL_cut {g:UInt8}:∀ {a:List UInt8},g∉a→∀ b,splitL g (a++g::b)=a::splitL g b
 | [],_,b=>splitL_sign g b
 | c::r,h,b=>by
  have hc:c≠g:=fun e=>h (by rw [e];exact List.mem_cons_self)
  obtain ⟨p,ps,e1,e2⟩:=splitL_cons_ne hc (r++g::b)
  rw [splitL_cut (a:=r) (fun hm=>h (List.mem_cons_of_mem _ hm)) b] at e1
  injection e1 with e3 e4
  rw [List.cons_append,e2,← e3,← e4]
theorem splitL_length (g:UInt8):∀ s:List UInt8,(splitL g s).length=s.count g+1
 | []=>rfl
 | c::r=>by
  by_cases hc:c=g
  ·subst hc
   rw [splitL_sign,List.length_cons,splitL_length c r,List.count_cons_self]
  ·obtain ⟨q,qs,e1,e2⟩:=splitL_cons_ne hc r
   have:=splitL_length g r
   rw [e1] at this
   rw [e2,List.length_cons,List.count_cons_of_ne hc]
   simpa using this
theorem splitL_length_le (g:UInt8) (s:List UInt8):(splitL g s).length≤s.length+1:=by
 rw [splitL_length]
 have:=List.count_le_length (a:=g) (l:=s)
 omega
def joinL (g:UInt8):List (List UInt8)→List UInt8
 | []=>[]
 | [p]=>p
 | p::q::r=>p++g::joinL g (q::r)
theorem drop_cut (s:List UInt8) (fr k:Nat) (h1:fr≤k) (h2:k<s.length):s.drop fr=(s.take k).drop fr++s[k]::s.drop (k+1):=by
 have e:s=s.take k++s[k]::s.drop (k+1):=by
  rw [← List.drop_eq_getElem_cons h2,List.take_append_drop]
 have hl:fr≤(s.take k).length:=by simp;omega
 conv=>lhs;rw [e]
 rw [List.drop_append_of_le_length hl]
theorem not_mem_cut {s:List UInt8} {g:UInt8} {fr k:Nat} (h:∀ j,fr≤j→j<k→s[j]?≠some g):g∉(s.take k).drop fr:=by
 intro hm
 obtain ⟨i,hi,e⟩:=List.getElem_of_mem hm
 have hi':fr+i<(s.take k).length:=by simp at hi ⊢;omega
 have e2:(s.take k)[fr+i]'hi'=g:=by rw [← e,List.getElem_drop]
 have hk:fr+i<k:=by simp at hi';omega
 refine h (fr+i) (by omega) hk ?_
 rw [List.getElem_take] at e2
 rw [List.getElem?_eq_getElem (by simp at hi';omega),e2]
def nameB (s:List UInt8):Bool:=decide (1≤s.length)&&decide (s.length≤64)&&!(s==[46])&&!(s==[46,46])&&s.all fun c=>decide (33≤c.toNat)&&decide (c.toNat≤126)&&!(c==47)
def pathB (s:List UInt8):Bool:=decide (s.length≤200)&&(splitL 47 s).all nameB&&decide ((splitL 47 s).length≤8)
end Go.Proofs.YtlkolcokjmlmjaaGreat.Tx
namespace Go.Proofs.YtlkolcokjmlmjaaGreat.Tx
open Go.RowKit Go.Proofs.YtlkolcokjmlmjaaGreat.Sh
theorem slice_str (cs:List UInt8) (a b:Nat):(str cs).extract a b=str ((cs.take b).drop a):=by
 unfold str
 apply ByteArray.ext
 rw [ByteArray.data_extract]
 apply Array.ext'
 rw [Array.toList_extract,List.extract_eq_take_drop,List.drop_take]
set_option maxRecDepth 100000 in
set_option maxHeartbeats 800000 in
theorem rsplit_any (cs:List UInt8) (g:UInt8) (w:World) (hn:cs.length≤1000000):Calls Tryz.prog 123 #[.string (str cs),.int .u8 (bi g)] w (TextsPost w ((splitL g cs).map str)):=by
 have hsz:=str_size cs
 obtain ⟨l,hL⟩:∃ l,cs.length=l:=⟨_,rfl⟩
 rw [hL] at hsz hn
 have HL:=Lib.hid hL
 clear hL
 go_enter Tryz.func123,Tryz.ntmps123
 go_wp2_with fail
 go_loopw [5,6,7] (fun v fr i wr=>∃ (k f:Nat) (ps:List (List UInt8)),k≤l+1∧f≤k∧ps.length≤f∧i=.int .i64 k∧fr=.int .i64 f∧(∀ j,f≤j→j<k→cs[j]?≠some g) ∧
   ((k≤l∧splitL g cs=ps++splitL g (cs.drop f))∨(k=l+1∧f=k∧splitL g cs=ps))∧OwnV 9 wr w.heap.size v ((ps.map str).map sv)∧Below w.heap.size w wr) (fun _ _ i _=>l+1 - (intOf i).toNat)
 case atStart=>exact ⟨0,0,[],by omega,by omega,by simp,rfl,rfl,fun j h1 h2=>by omega,.inl ⟨by omega,by simp⟩,OwnV.nil_ _ _,Below.refl _ _⟩
 case round =>
  obtain ⟨k,f,ps,hk,hf,hpl,rfl,rfl,hno,hst,ho,hb⟩:=hrel
  have HO:=Lib.hid ho
  have HB:=Lib.hid hb
  have HNO:=Lib.hid hno
  have hwz:=hb.size
  clear ho hb hno
  have k0:(0:Int)≤(k:Int):=by omega
  have f0:(0:Int)≤(f:Int):=by omega
  have fk:(f:Int)≤(k:Int):=by omega
  by_cases hlt:k<l
  ·have k1:(k:Int)<(l:Int):=by omega
   have k2:(k:Int)≤(l:Int):=by omega
   have k3:((k:Int)==(l:Int))=false:=by rw [beq_eq_false_iff_ne];omega
   have hkc:k<cs.length:=by rw [HL.out];exact hlt
   have hix:=index_str cs k hkc
   obtain ⟨x,hx⟩:∃ x,cs.getD k 0=x:=⟨_,rfl⟩
   have hx':cs[k]?=some x:=by rw [← hx,List.getD_eq_getElem?_getD,List.getElem?_eq_getElem hkc];rfl
   rw [hx] at hix
   have HX:=Lib.hid hx'
   obtain ⟨_,hs⟩ | ⟨h0,_⟩:=hst
   rotate_left
   ·omega
   have HS:=Lib.hid hs
   clear hs hx hx' hkc
   by_cases hg:x=g
   ·subst hg
    have e1:(bi x==bi x)=true:=beq_self_eq_true _
    have hsm:(ps.map str).length+1≤2000000:=by rw [List.length_map];omega
    go_wp2_with (at_builtin;refine append_text rfl (.tmp 25) (.tmp 30) rfl wr w.heap.size u5 (ps.map str) rfl HO.out ((str cs).extract f k) rfl hsm hwz ?_;intro v3 w3 ho3 hb3;have HO3:=Lib.hid ho3;have HB3:=Lib.hid hb3;clear ho3 hb3)
    go_roundw
    case rel =>
     have hlk:k<cs.length:=by rw [HL.out];exact hlt
     refine ⟨k+1,k+1,ps++[(cs.take k).drop f],by omega,by omega,by simp;omega,by go_num,by go_num,fun j h1 h2=>by omega,.inl ⟨by omega,?_⟩,?_,HB.out.trans (HB3.out.mono (Nat.le_refl _))⟩
     ·rw [HS.out,drop_cut cs f k hf hlk]
      have hx2:cs[k]=x:=by have:=HX.out;rw [List.getElem?_eq_getElem hlk] at this;injection this
      rw [hx2,splitL_cut (not_mem_cut HNO.out),List.append_assoc]
      rfl
     ·have:=HO3.out
      rw [slice_str] at this
      simpa using this
    case measure=>simp [intOf];omega
   ·have e1:(bi x==bi g)=false:=by rw [beq_eq_false_iff_ne];exact fun e=>hg (bi_inj e)
    go_wp2
    go_roundw
    case rel =>
     refine ⟨k+1,f,ps,by omega,by omega,hpl,by go_num,rfl,fun j h1 h2=>?_,.inl ⟨by omega,HS.out⟩,HO.out,HB.out⟩
     by_cases hj:j=k
     ·subst hj;rw [HX.out];exact fun e=>hg (by injection e)
     ·exact HNO.out j h1 (by omega)
    case measure=>simp [intOf];omega
  ·by_cases hl2:k=l
   ·subst hl2
    have k2:(k:Int)≤(k:Int):=Int.le_refl _
    have k3:((k:Int)==(k:Int))=true:=beq_self_eq_true _
    obtain ⟨_,hs⟩ | ⟨h0,_⟩:=hst
    rotate_left
    ·omega
    have HS:=Lib.hid hs
    clear hs
    have hsm:(ps.map str).length+1≤2000000:=by rw [List.length_map];omega
    go_wp2_with (at_builtin;refine append_text rfl (.tmp 25) (.tmp 30) rfl wr w.heap.size u5 (ps.map str) rfl HO.out ((str cs).extract f k) rfl hsm hwz ?_;intro v3 w3 ho3 hb3;have HO3:=Lib.hid ho3;have HB3:=Lib.hid hb3;clear ho3 hb3)
    go_roundw
    case rel =>
     refine ⟨k+1,k+1,ps++[(cs.take k).drop f],by omega,by omega,by simp;omega,by go_num,by go_num,fun j h1 h2=>by omega,.inr ⟨rfl,rfl,?_⟩,?_,HB.out.trans (HB3.out.mono (Nat.le_refl _))⟩
     ·rw [HS.out]
      have h1:=not_mem_cut HNO.out
      rw [List.take_of_length_le (by rw [HL.out];exact Nat.le_refl _)] at h1 ⊢
      rw [splitL_none h1]
     ·have:=HO3.out
      rw [slice_str] at this
      simpa using this
    case measure=>simp [intOf]
   ·obtain ⟨h0,_⟩ | ⟨h0,h1,hs⟩:=hst
    ·omega
    subst h0
    have HS:=Lib.hid hs
    have k2:¬ (((l+1:Nat):Int)≤(l:Int)):=by omega
    have k3:(l:Int)<((l+1:Nat):Int):=by omega
    clear hs h1
    go_wp2
    go_ret
    exact ⟨u5,rfl,by rw [HS.out];exact HO.out,HB.out⟩
end Go.Proofs.YtlkolcokjmlmjaaGreat.Tx
namespace Go.Proofs.YtlkolcokjmlmjaaGreat.Tx
open Go.RowKit Go.Proofs.YtlkolcokjmlmjaaGreat.Sh
def okc (c:UInt8):Bool:=decide (33≤c.toNat)&&decide (c.toNat≤126)&&!(c==47)
theorem nameB_eq (s:List UInt8):nameB s=(decide (1≤s.length)&&decide (s.length≤64)&&!(s==[46])&&!(s==[46,46])&&s.all okc):=rfl
theorem nameB_bad {s:List UInt8} {k:Nat} {c:UInt8} (h:s[k]?=some c) (hc:okc c=false):nameB s=false:=by
 rw [nameB_eq]
 have:s.all okc=false:=by
  rw [List.all_eq_false]
  exact ⟨c,List.mem_of_getElem? h,by rw [hc];decide⟩
 rw [this,Bool.and_false]
theorem nameB_good {s:List UInt8} (h1:1≤s.length) (h2:s.length≤64) (h3:(s==[46])=false) (h4:(s==[46,46])=false) (h:∀ (j:Nat) (c:UInt8),s[j]?=some c→okc c=true):nameB s=true:=by
 rw [nameB_eq,h3,h4]
 have:s.all okc=true:=by
  rw [List.all_eq_true]
  intro x hx
  obtain ⟨i,hi⟩:=List.getElem?_of_mem hx
  exact h i x hi
 rw [this]
 simp [h1,h2]
theorem okc_cases (c:UInt8):(okc c=false∧bi c<33)∨(okc c=false∧33≤bi c∧126<bi c)∨(okc c=false∧33≤bi c∧bi c≤126∧c=47)∨(okc c=true∧33≤bi c∧bi c≤126∧(bi c==47)=false):=by
 have e:bi c=(c.toNat:Int):=by unfold bi;rfl
 rw [e]
 unfold okc
 by_cases h1:c.toNat<33
 ·left;constructor
  ·simp;omega
  ·omega
 ·by_cases h2:126<c.toNat
  ·right;left;refine ⟨by simp;omega,by omega,by omega⟩
  ·by_cases h3:c=47
   ·right;right;left;subst h3;exact ⟨by decide,by decide,by decide,rfl⟩
   ·right;right;right
    refine ⟨by simp;exact ⟨⟨by omega,by omega⟩,h3⟩,by omega,by omega,?_⟩
    rw [beq_eq_false_iff_ne]
    intro h
    exact h3 (UInt8.toNat_inj.1 (by show c.toNat=47;omega))
theorem list_other {a b:List UInt8} (h:a≠b):(a==b)=false:=by simpa using h
set_option maxRecDepth 100000 in
set_option maxHeartbeats 1600000 in
theorem rname_any (cs:List UInt8) (w:World) (hn:cs.length≤1000000):Calls Tryz.prog 27 #[.string (str cs)] w fun e w'=>e=.returned (.bool (nameB cs))∧w=w':=by
 have hsz:=str_size cs
 have htl:=str_toList cs
 obtain ⟨l,hL⟩:∃ l,cs.length=l:=⟨_,rfl⟩
 rw [hL] at hsz hn
 have HL:=Lib.hid hL
 have n0:(0:Int)≤(l:Int):=by omega
 clear hL
 by_cases h1:l<1
 ·have HR:Hid (nameB cs=false):=by
   unfold Hid
   rw [nameB_eq,HL.out]
   simp [show ¬ (1≤l) from by omega]
  obtain rfl:l=0:=by omega
  clear htl h1 n0
  go_enter Tryz.func27,Tryz.ntmps27
  go_wp2
  go_ret
  exact ⟨by rw [HR.out];rfl,rfl⟩
 ·by_cases h2:64<l
  ·have HR:Hid (nameB cs=false):=by
    unfold Hid
    rw [nameB_eq,HL.out]
    simp [show ¬ (l≤64) from by omega]
   have z1:(1:Int)≤(l:Int):=by omega
   have z2:(64:Int)<(l:Int):=by omega
   clear htl
   go_enter Tryz.func27,Tryz.ntmps27
   go_wp2
   go_ret
   exact ⟨by rw [HR.out];rfl,rfl⟩
  ·have z1:(1:Int)≤(l:Int):=by omega
   have z2:(l:Int)≤64:=by omega
   by_cases h3:cs=[46]
   ·have HR:Hid (nameB cs=false):=by subst h3;rfl
    have e1:((str cs).toList==[46])=true:=by rw [htl,h3];rfl
    clear htl h3
    go_enter Tryz.func27,Tryz.ntmps27
    go_wp2
    go_ret
    exact ⟨by rw [HR.out];rfl,rfl⟩
   ·have e1:((str cs).toList==[46])=false:=by rw [htl];exact list_other h3
    by_cases h4:cs=[46,46]
    ·have HR:Hid (nameB cs=false):=by subst h4;rfl
     have e2:((str cs).toList==[46,46])=true:=by rw [htl,h4];rfl
     clear htl h3 h4
     go_enter Tryz.func27,Tryz.ntmps27
     go_wp2
     go_ret
     exact ⟨by rw [HR.out];rfl,rfl⟩
    ·have e2:((str cs).toList==[46,46])=false:=by rw [htl];exact list_other h4
     have H3:=Lib.hid h3
     have H4:=Lib.hid h4
     clear htl h3 h4
     go_enter Tryz.func27,Tryz.ntmps27
     go_wp2
     clear e1 e2
     go_loop [3] (fun i=>∃ k:Nat,k≤l∧i=.int .i64 k∧∀ (j:Nat) (c:UInt8),j<k→cs[j]?=some c→okc c=true) (fun i=>l - (intOf i).toNat)
     case atStart=>exact ⟨0,by omega,rfl,fun j c hj=>by omega⟩
     case round =>
      obtain ⟨k,hk,rfl,hok⟩:=hrel
      have HOK:=Lib.hid hok
      clear hok
      have k0:(0:Int)≤(k:Int):=by omega
      by_cases hlt:k<l
      ·have k1:(k:Int)<(l:Int):=by omega
       have hkc:k<cs.length:=by rw [HL.out];exact hlt
       have hix:=index_str cs k hkc
       obtain ⟨x,hx⟩:∃ x,cs.getD k 0=x:=⟨_,rfl⟩
       have hx':cs[k]?=some x:=by rw [← hx,List.getD_eq_getElem?_getD,List.getElem?_eq_getElem hkc];rfl
       rw [hx] at hix
       have HX:=Lib.hid hx'
       clear hx hx' hkc
       rcases okc_cases x with ⟨ho,c1⟩ | ⟨ho,c1,c2⟩ | ⟨ho,c1,c2,c3⟩ | ⟨ho,c1,c2,c3⟩
       ·have HR:Hid (nameB cs=false):=nameB_bad HX.out ho
        clear ho
        generalize bi x=y at *
        go_wp2
        go_ret
        exact ⟨by rw [HR.out];rfl,rfl⟩
       ·have HR:Hid (nameB cs=false):=nameB_bad HX.out ho
        clear ho
        generalize bi x=y at *
        go_wp2
        go_ret
        exact ⟨by rw [HR.out];rfl,rfl⟩
       ·have HR:Hid (nameB cs=false):=nameB_bad HX.out ho
        have hy:bi x=47:=by subst c3;unfold bi;rfl
        rw [hy] at hix c1 c2
        clear ho c3 hy
        go_wp2
        go_ret
        exact ⟨by rw [HR.out];rfl,rfl⟩
       ·have HO:=Lib.hid ho
        clear ho
        generalize bi x=y at *
        go_wp2
        go_round
        case rel =>
         refine ⟨k+1,by omega,by go_num,fun j c hj hc=>?_⟩
         by_cases e:j=k
         ·subst e;rw [HX.out] at hc;injection hc with hc;subst hc;exact HO.out
         ·exact HOK.out j c (by omega) hc
        case measure=>simp [intOf];omega
      ·have HR:Hid (nameB cs=true):=by
        unfold Hid
        refine nameB_good (by rw [HL.out];omega) (by rw [HL.out];omega) (list_other H3.out) (list_other H4.out) (fun j c hc=>HOK.out j c ?_ hc)
        have:=(List.getElem?_eq_some_iff.1 hc).1
        rw [HL.out] at this
        omega
       obtain rfl:k=l:=by omega
       go_wp2
       go_ret
       exact ⟨by rw [HR.out];rfl,rfl⟩
end Go.Proofs.YtlkolcokjmlmjaaGreat.Tx
namespace Go.Proofs.YtlkolcokjmlmjaaGreat.Tx
open Go.RowKit Go.Proofs.YtlkolcokjmlmjaaGreat.Sh
def BoolPost (w:World) (t:Bool) (e:Ending) (w':World):Prop:=e=.returned (.bool t)∧Below w.heap.size w w'
theorem piece_len {g:UInt8}:∀ {s p:List UInt8},p∈splitL g s→p.length≤s.length
 | [],p,h=>by simp [splitL] at h;subst h;simp
 | c::r,p,h=>by
  by_cases hc:c=g
  ·subst hc
   rw [splitL_sign] at h
   rcases List.mem_cons.1 h with rfl | h
   ·simp
   ·have:=piece_len h;simp;omega
  ·obtain ⟨q,qs,e1,e2⟩:=splitL_cons_ne hc r
   rw [e2] at h
   rcases List.mem_cons.1 h with rfl | h
   ·have:=piece_len (s:=r) (p:=q) (by rw [e1];exact List.mem_cons_self)
    simp;omega
   ·have:=piece_len (s:=r) (p:=p) (by rw [e1];exact List.mem_cons_of_mem _ h)
    simp;omega
theorem pathB_long {s:List UInt8} (h:200<s.length):pathB s=false:=by
 unfold pathB
 simp [show ¬ (s.length≤200) from by omega]
theorem pathB_bad {s:List UInt8} {k:Nat} (hk:k<(splitL 47 s).length) (h:nameB (splitL 47 s)[k]=false):pathB s=false:=by
 unfold pathB
 have:(splitL 47 s).all nameB=false:=by
  rw [List.all_eq_false]
  exact ⟨_,List.getElem_mem hk,by rw [h];decide⟩
 rw [this,Bool.and_false,Bool.false_and]
theorem pathB_good {s:List UInt8} (h1:s.length≤200) (h:∀ (k:Nat) (hk:k<(splitL 47 s).length),nameB (splitL 47 s)[k]=true):pathB s=decide ((splitL 47 s).length≤8):=by
 unfold pathB
 have:(splitL 47 s).all nameB=true:=by
  rw [List.all_eq_true]
  intro x hx
  obtain ⟨i,hi,rfl⟩:=List.getElem_of_mem hx
  exact h i hi
 rw [this]
 simp [h1]
theorem pathB_len {s:List UInt8} (h:pathB s=true):s.length≤200:=by
 unfold pathB at h
 simp at h
 exact h.1.1
theorem bi47:bi 47=47:=by unfold bi;rfl
theorem sign47 (cs:List UInt8) (w:World) (hn:cs.length≤1000000):Calls Tryz.prog 123 #[.string (str cs),.int .u8 47] w (TextsPost w ((splitL 47 cs).map str)):=by
 have h:=rsplit_any cs 47 w hn
 rw [bi47] at h
 exact h
theorem piece_at {w:World} {B:Nat} {ps:List (List UInt8)} {A:Option Addr} {n c:Nat} (h:OwnV 9 w B (.slice A n c) ((ps.map str).map sv)) (k:Nat) (hk:k<ps.length):∃ ad,A=some ad∧w.cell? (ad.add k)=some (.string (str ps[k])):=by
 obtain ⟨A',c',hv,_,_,hr⟩:=h.slv.len
 injection hv with e1 e2 e3
 subst e1
 obtain ⟨ad,h1,h2⟩:=reads_at hr k (sv (str ps[k])) (by rw [List.map_map,List.getElem?_map,List.getElem?_eq_getElem hk];rfl)
 exact ⟨ad,h1,h2⟩
set_option maxRecDepth 100000 in
set_option maxHeartbeats 1600000 in
theorem rpath_any (cs:List UInt8) (w:World) (hn:cs.length≤1000000):Calls Tryz.prog 88 #[.string (str cs)] w (BoolPost w (pathB cs)):=by
 have hsz:=str_size cs
 obtain ⟨l,hL⟩:∃ l,cs.length=l:=⟨_,rfl⟩
 rw [hL] at hsz hn
 have HL:=Lib.hid hL
 have n0:(0:Int)≤(l:Int):=by omega
 clear hL
 by_cases h1:200<l
 ·have HR:Hid (pathB cs=false):=pathB_long (by rw [HL.out];exact h1)
  have z1:(200:Int)<(l:Int):=by omega
  go_enter Tryz.func88,Tryz.ntmps88
  go_wp2
  go_ret
  exact ⟨by rw [HR.out];rfl,Below.refl _ _⟩
 ·have z1:(l:Int)≤200:=by omega
  have h200:l≤200:=by omega
  clear h1
  go_enter Tryz.func88,Tryz.ntmps88
  go_wp2_with fail
  refine (sign47 cs _ (by rw [HL.out];exact hn)).mono ?_
  rintro e w1 ⟨v,rfl,ho,hb⟩
  obtain ⟨A,c,rfl,hlc,hcm⟩:=ho.length
  obtain ⟨n,hN⟩:∃ n,(splitL 47 cs).length=n:=⟨_,rfl⟩
  rw [List.length_map,List.length_map,hN] at ho hlc ⊢
  unfold maxLen at hcm
  have hn201:n≤201:=by rw [← hN];have:=splitL_length_le 47 cs;rw [HL.out] at this;omega
  have HN:=Lib.hid hN
  have HO:=Lib.hid ho
  have HB:=Lib.hid hb
  clear ho hb hN
  go_wp2_with fail
  go_loop [4] (fun i=>∃ k:Nat,k≤n∧i=.int .i64 k∧∀ (j:Nat) (hj:j<(splitL 47 cs).length),j<k→nameB (splitL 47 cs)[j]=true) (fun i=>n - (intOf i).toNat)
  case atStart=>exact ⟨0,by omega,rfl,fun j _ hj=>by omega⟩
  case round =>
   obtain ⟨k,hk,rfl,hok⟩:=hrel
   have HOK:=Lib.hid hok
   clear hok
   have k0:(0:Int)≤(k:Int):=by omega
   by_cases hlt:k<n
   ·have k1:(k:Int)<(n:Int):=by omega
    have hkp:k<(splitL 47 cs).length:=by rw [HN.out];exact hlt
    obtain ⟨ad,rfl,hcell⟩:=piece_at HO.out k hkp
    have hpl:=piece_len (List.getElem_mem hkp)
    obtain ⟨p,hp⟩:∃ p,(splitL 47 cs)[k]=p:=⟨_,rfl⟩
    rw [hp] at hcell hpl
    have HP:=Lib.hid hp
    rw [HL.out] at hpl
    clear hp
    go_wp2_with fail
    refine (rname_any p _ (by omega)).mono ?_
    rintro e w2 ⟨rfl,rfl⟩
    obtain ⟨t,ht⟩:∃ t,nameB p=t:=⟨_,rfl⟩
    rw [ht]
    have HT:=Lib.hid ht
    clear ht
    cases t with
    | false =>
     have HR:Hid (pathB cs=false):=pathB_bad hkp (by rw [HP.out];exact HT.out)
     go_wp2
     go_ret
     exact ⟨by rw [HR.out];rfl,HB.out⟩
    | true =>
     go_wp2
     go_round
     case rel =>
      refine ⟨k+1,by omega,by go_num,fun j hj hjk=>?_⟩
      by_cases e:j=k
      ·subst e;rw [HP.out];exact HT.out
      ·exact HOK.out j hj (by omega)
     case measure=>simp [intOf];omega
   ·obtain rfl:k=n:=by omega
    have HR:Hid (pathB cs=decide (k≤8)):=by
     unfold Hid
     rw [pathB_good (by rw [HL.out];exact h200) (fun j hj=>HOK.out j hj (by rw [HN.out] at hj;exact hj)),HN.out]
    by_cases h8:k≤8
    ·have z8:(k:Int)≤8:=by omega
     go_wp2
     go_ret
     exact ⟨by rw [HR.out];simp [h8],HB.out⟩
    ·have z8:(8:Int)<(k:Int):=by omega
     go_wp2
     go_ret
     exact ⟨by rw [HR.out];simp [h8];omega,HB.out⟩
end Go.Proofs.YtlkolcokjmlmjaaGreat.Tx
namespace Go.Proofs.YtlkolcokjmlmjaaGreat.Tx
open Go.RowKit Go.Proofs.YtlkolcokjmlmjaaGreat.Sh
theorem str_append (a b:List UInt8):str a++str b=str (a++b):=by
 unfold str
 apply ByteArray.ext
 rw [ByteArray.data_append]
 simp
def underB (d s:List UInt8):Bool:=pathB d&&pathB s&&decide (d.length+1<s.length)&&(s.take d.length==d)&&(s[d.length]?==some 47)
set_option maxRecDepth 100000 in
set_option maxHeartbeats 1600000 in
theorem runder_any (ds cs:List UInt8) (w:World) (hd:ds.length≤1000000) (hn:cs.length≤1000000):Calls Tryz.prog 101 #[.string (str ds),.string (str cs)] w (BoolPost w (underB ds cs)):=by
 have hsz:=str_size cs
 have hdz:=str_size ds
 obtain ⟨t1,ht1⟩:∃ t,pathB ds=t:=⟨_,rfl⟩
 have HT1:=Lib.hid ht1
 cases t1 with
 | false =>
  have HR:Hid (underB ds cs=false):=by unfold Hid underB;rw [ht1];rfl
  clear ht1
  go_enter Tryz.func101,Tryz.ntmps101
  go_wp2_with fail
  refine (rpath_any ds _ hd).mono ?_
  rintro e w1 ⟨rfl,hb⟩
  rw [HT1.out]
  have HB:=Lib.hid hb
  clear hb
  go_wp2_with fail
  go_ret
  exact ⟨by rw [HR.out];rfl,HB.out⟩
 | true =>
  obtain ⟨t2,ht2⟩:∃ t,pathB cs=t:=⟨_,rfl⟩
  have HT2:=Lib.hid ht2
  have HU:Hid (underB ds cs=(t2&&decide (ds.length+1<cs.length)&&(cs.take ds.length==ds)&&(cs[ds.length]?==some 47))):=by unfold Hid underB;rw [ht1,ht2,Bool.true_and]
  clear ht1 ht2
  have hdl:Hid (ds.length≤200):=pathB_len HT1.out
  cases t2 with
  | false =>
   go_enter Tryz.func101,Tryz.ntmps101
   go_wp2_with fail
   refine (rpath_any ds _ hd).mono ?_
   rintro e w1 ⟨rfl,hb⟩
   rw [HT1.out]
   have HB:=Lib.hid hb
   clear hb
   go_wp2_with fail
   refine (rpath_any cs _ hn).mono ?_
   rintro e w2 ⟨rfl,hb⟩
   rw [HT2.out]
   have HB2:=Lib.hid (HB.out.trans (hb.mono HB.out.size))
   clear hb
   go_wp2_with fail
   go_ret
   exact ⟨by rw [HU.out];rfl,HB2.out⟩
  | true =>
   have hcl:Hid (cs.length≤200):=pathB_len HT2.out
   obtain ⟨l,hL⟩:∃ l,cs.length=l:=⟨_,rfl⟩
   obtain ⟨m,hM⟩:∃ m,ds.length=m:=⟨_,rfl⟩
   rw [hL] at hsz hn
   rw [hM] at hdz hd
   have n0:(0:Int)≤(l:Int):=by omega
   have n1:(l:Int)≤200:=by have:=hcl.out;omega
   have n2:(0:Int)≤(m:Int):=by omega
   have n3:(m:Int)≤200:=by have:=hdl.out;omega
   have HL:=Lib.hid hL
   have HM:=Lib.hid hM
   clear hL hM
   by_cases h1:m+1<l
   ·have z1:(m:Int)+1<(l:Int):=by omega
    have z2:(m:Int)≤(l:Int):=by omega
    have z3:(m:Int)<(l:Int):=by omega
    have hix:=index_str cs m (by rw [HL.out];omega)
    obtain ⟨x,hx⟩:∃ x,cs.getD m 0=x:=⟨_,rfl⟩
    have hx':cs[m]?=some x:=by rw [← hx,List.getD_eq_getElem?_getD,List.getElem?_eq_getElem (by rw [HL.out];omega)];rfl
    rw [hx] at hix
    have hU2:underB ds cs=((cs.take m==ds)&&(x==47)):=by
     rw [HU.out,HL.out,HM.out,hx']
     simp [h1]
    have HU2:=Lib.hid hU2
    clear hx hx' hU2
    have hsl:=slice_str cs 0 m
    have htl:=str_toList ds
    have htl2:=str_toList ((cs.take m).drop 0)
    rw [List.drop_zero] at htl2 hsl
    by_cases h2:cs.take m=ds
    ·have e1:(((str cs).extract 0 m).toList==(str ds).toList)=true:=by rw [hsl,htl2,htl,h2];exact beq_self_eq_true _
     have H2:Hid ((cs.take m==ds)=true):=by unfold Hid;rw [h2];exact beq_self_eq_true _
     clear hsl htl htl2 h2
     by_cases h3:x=47
     ·subst h3
      rw [bi47] at hix
      go_enter Tryz.func101,Tryz.ntmps101
      go_wp2_with fail
      refine (rpath_any ds _ (by rw [HM.out];exact hd)).mono ?_
      rintro e w1 ⟨rfl,hb⟩
      rw [HT1.out]
      have HB:=Lib.hid hb
      clear hb
      go_wp2_with fail
      refine (rpath_any cs _ (by rw [HL.out];exact hn)).mono ?_
      rintro e w2 ⟨rfl,hb⟩
      rw [HT2.out]
      have HB2:=Lib.hid (HB.out.trans (hb.mono HB.out.size))
      clear hb
      go_wp2_with fail
      go_ret
      exact ⟨by rw [HU2.out,H2.out];rfl,HB2.out⟩
     ·have e3:(bi x==47)=false:=by rw [← bi47,beq_eq_false_iff_ne];exact fun e=>h3 (bi_inj e)
      have H3:Hid ((x==47)=false):=by unfold Hid;simpa using h3
      generalize bi x=y at *
      clear h3
      go_enter Tryz.func101,Tryz.ntmps101
      go_wp2_with fail
      refine (rpath_any ds _ (by rw [HM.out];exact hd)).mono ?_
      rintro e w1 ⟨rfl,hb⟩
      rw [HT1.out]
      have HB:=Lib.hid hb
      clear hb
      go_wp2_with fail
      refine (rpath_any cs _ (by rw [HL.out];exact hn)).mono ?_
      rintro e w2 ⟨rfl,hb⟩
      rw [HT2.out]
      have HB2:=Lib.hid (HB.out.trans (hb.mono HB.out.size))
      clear hb
      go_wp2_with fail
      go_ret
      exact ⟨by rw [HU2.out,H2.out,H3.out];rfl,HB2.out⟩
    ·have e1:(((str cs).extract 0 m).toList==(str ds).toList)=false:=by rw [hsl,htl2,htl];exact list_other h2
     have H2:Hid ((cs.take m==ds)=false):=list_other h2
     clear hsl htl htl2 h2 hix
     go_enter Tryz.func101,Tryz.ntmps101
     go_wp2_with fail
     refine (rpath_any ds _ (by rw [HM.out];exact hd)).mono ?_
     rintro e w1 ⟨rfl,hb⟩
     rw [HT1.out]
     have HB:=Lib.hid hb
     clear hb
     go_wp2_with fail
     refine (rpath_any cs _ (by rw [HL.out];exact hn)).mono ?_
     rintro e w2 ⟨rfl,hb⟩
     rw [HT2.out]
     have HB2:=Lib.hid (HB.out.trans (hb.mono HB.out.size))
     clear hb
     go_wp2_with fail
     go_ret
     exact ⟨by rw [HU2.out,H2.out];rfl,HB2.out⟩
   ·have z1:(l:Int)≤(m:Int)+1:=by omega
    have HU2:Hid (underB ds cs=false):=by
     unfold Hid
     rw [HU.out,HL.out,HM.out]
     simp [h1]
    go_enter Tryz.func101,Tryz.ntmps101
    go_wp2_with fail
    refine (rpath_any ds _ (by rw [HM.out];exact hd)).mono ?_
    rintro e w1 ⟨rfl,hb⟩
    rw [HT1.out]
    have HB:=Lib.hid hb
    clear hb
    go_wp2_with fail
    refine (rpath_any cs _ (by rw [HL.out];exact hn)).mono ?_
    rintro e w2 ⟨rfl,hb⟩
    rw [HT2.out]
    have HB2:=Lib.hid (HB.out.trans (hb.mono HB.out.size))
    clear hb
    go_wp2_with fail
    go_ret
    exact ⟨by rw [HU2.out];rfl,HB2.out⟩
end Go.Proofs.YtlkolcokjmlmjaaGreat.Tx
namespace Go.Proofs.YtlkolcokjmlmjaaGreat.Tx
open Go.RowKit Go.Proofs.YtlkolcokjmlmjaaGreat.Sh
def parP (s:List UInt8):Nat→List (List UInt8)
 | 0=>[]
 | k+1=>if s[k]?=some 47 then parP s k++[s.take k] else parP s k
def parentsL (s:List UInt8):List (List UInt8):=if pathB s=true then parP s s.length else []
theorem parP_len (s:List UInt8):∀ k,(parP s k).length≤k
 | 0=>Nat.le_refl _
 | k+1=>by
  have:=parP_len s k
  unfold parP
  split
  ·simp;omega
  ·omega
def copyL (s id:List UInt8) (n:Int):List UInt8:=s++[126]++id.take 8++List.replicate (min n 100).toNat 126
end Go.Proofs.YtlkolcokjmlmjaaGreat.Tx
namespace Go.Proofs.YtlkolcokjmlmjaaGreat.Tx
open Go.RowKit Go.Proofs.YtlkolcokjmlmjaaGreat.Sh
def joinOk (l:List (List UInt8)):Bool:=!l.isEmpty&&((splitL 47 (joinL 47 l)).length==l.length)&&pathB (joinL 47 l)
def joinT (l:List (List UInt8)):List UInt8:=if joinOk l=true then joinL 47 l else []
def joinE (l:List (List UInt8)):Int:=if joinOk l=true then 0 else 6
def JoinPost (w:World) (l:List (List UInt8)) (e:Ending) (w':World):Prop:=e=.returned (.tuple #[.string (str (joinT l)),.int .i64 (joinE l)])∧Below w.heap.size w w'
end Go.Proofs.YtlkolcokjmlmjaaGreat.Tx
namespace Go.Proofs.YtlkolcokjmlmjaaGreat.Tx
open Go.RowKit Go.Proofs.YtlkolcokjmlmjaaGreat.Sh
def takesB (fr:List UInt8) (star:Bool) (bk s:List UInt8):Bool:=if star=true then decide (fr.length+bk.length≤s.length)&&(s.take fr.length==fr)&&(s.drop (s.length - bk.length)==bk) else s==fr
end Go.Proofs.YtlkolcokjmlmjaaGreat.Tx
namespace Go.Proofs.YtlkolcokjmlmjaaGreat.Tx
open Go.RowKit Go.Proofs.YtlkolcokjmlmjaaGreat.Sh
def patDir (p:List UInt8):Bool:=p.getLast?==some 47
def patCore (p:List UInt8):List UInt8:=if patDir p=true then p.take (p.length - 1) else p
def patL (p:List UInt8):Option (List UInt8 × Bool × List UInt8 × Bool) :=
 if nameB (patCore p)=true then
  match splitL 42 (patCore p) with
  | [_]=>some (patCore p,false,[],patDir p)
  | [a,b]=>if a.isEmpty=b.isEmpty then none else some (a,true,b,patDir p)
  | _=>none
 else none
def patV:Option (List UInt8 × Bool × List UInt8 × Bool)→Value
 | none=>.tuple #[.string ⟨#[]⟩,.bool false,.string ⟨#[]⟩,.bool false,.bool false]
 | some (a,s,b,d)=>.tuple #[.string (str a),.bool s,.string (str b),.bool d,.bool true]
def PatPost (w:World) (p:List UInt8) (e:Ending) (w':World):Prop:=e=.returned (patV (patL p))∧Below w.heap.size w w'
theorem text_there {b:List UInt8} (h:0<b.length):(str b).toList.isEmpty=false∧((str b).toList==[])=false:=by
 rw [str_toList]
 cases b with
 | nil=>simp at h
 | cons c r=>exact ⟨rfl,rfl⟩
end Go.Proofs.YtlkolcokjmlmjaaGreat.Tx
namespace Go.Proofs.YtlkolcokjmlmjaaGreat.Tx
open Go.RowKit Go.Proofs.YtlkolcokjmlmjaaGreat.Sh
def namesL (s:List UInt8):List (List UInt8):=if pathB s=true then splitL 47 s else []
def hitTo (f:List UInt8) (st:Bool) (b:List UInt8) (d:Bool) (l:List (List UInt8)) (k:Nat):Bool:=(List.range k).any fun j=>(!d||decide (j+1<l.length))&&takesB f st b (l.getD j [])
def hitP (l:List (List UInt8)) (p:List UInt8):Bool:=match patL p with
 | none=>false
 | some (f,st,b,d)=>hitTo f st b d l l.length
def ignoredB (ps:List (List UInt8)) (s:List UInt8):Bool:=ps.any (hitP (namesL s))
theorem namesL_few (s:List UInt8):(namesL s).length≤s.length+1:=by
 unfold namesL
 split
 ·exact splitL_length_le 47 s
 ·simp
end Go.Proofs.YtlkolcokjmlmjaaGreat.Tx
namespace Go.Proofs.YtlkolcokjmlmjaaGreat.Tx
theorem splitL_app (g:UInt8):∀ (a b:List UInt8),splitL g (a++g::b)=splitL g a++splitL g b
 | [],b=>splitL_sign g b
 | c::r,b=>by
  by_cases hc:c=g
  ·subst hc
   rw [List.cons_append,splitL_sign,splitL_sign,splitL_app c r b]
   rfl
  ·obtain ⟨p,ps,e1,e2⟩:=splitL_cons_ne hc (r++g::b)
   obtain ⟨q,qs,e3,e4⟩:=splitL_cons_ne hc r
   rw [splitL_app g r b,e3] at e1
   injection e1 with e5 e6
   rw [List.cons_append,e2,e4,← e5,← e6]
   rfl
theorem pathB_iff (s:List UInt8):pathB s=true↔s.length≤200∧(∀ p∈splitL 47 s,nameB p=true)∧(splitL 47 s).length≤8:=by
 unfold pathB
 simp [and_assoc]
theorem nameB_sign {p:List UInt8} (h:nameB p=true):47∉p:=by
 intro hm
 rw [nameB_eq] at h
 simp only [Bool.and_eq_true,List.all_eq_true] at h
 have:=h.2 47 hm
 exact absurd this (by decide)
theorem parP_mem {s x:List UInt8}:∀ {n:Nat},x∈parP s n↔∃ k,k<n∧s[k]?=some 47∧x=s.take k
 | 0=>by simp [parP]
 | n+1=>by
  unfold parP
  split
  ·rename_i h
   rw [List.mem_append,parP_mem,List.mem_singleton]
   constructor
   ·rintro (⟨k,h1,h2,h3⟩ | h3)
    ·exact ⟨k,by omega,h2,h3⟩
    ·exact ⟨n,by omega,h,h3⟩
   ·rintro ⟨k,h1,h2,h3⟩
    by_cases e:k=n
    ·subst e;exact .inr h3
    ·exact .inl ⟨k,by omega,h2,h3⟩
  ·rename_i h
   rw [parP_mem]
   constructor
   ·rintro ⟨k,h1,h2,h3⟩;exact ⟨k,by omega,h2,h3⟩
   ·rintro ⟨k,h1,h2,h3⟩
    by_cases e:k=n
    ·subst e;exact absurd h2 h
    ·exact ⟨k,by omega,h2,h3⟩
theorem cut_at {s:List UInt8} {k:Nat} (h:s[k]?=some 47):s=s.take k++47::s.drop (k+1):=by
 obtain ⟨hk,e⟩:=List.getElem?_eq_some_iff.1 h
 rw [← e,← List.drop_eq_getElem_cons hk,List.take_append_drop]
theorem cut_split {s:List UInt8} {k:Nat} (h:s[k]?=some 47):splitL 47 s=splitL 47 (s.take k)++splitL 47 (s.drop (k+1)):=by
 conv=>lhs;rw [cut_at h]
 exact splitL_app 47 _ _
theorem pathB_cut {s:List UInt8} {k:Nat} (hp:pathB s=true) (h:s[k]?=some 47):pathB (s.take k)=true∧k+1<s.length:=by
 obtain ⟨h1,h2,h3⟩:=(pathB_iff s).1 hp
 have hs:=cut_split h
 obtain ⟨hk,_⟩:=List.getElem?_eq_some_iff.1 h
 refine ⟨(pathB_iff _).2 ⟨by rw [List.length_take];omega,fun p hp=>h2 p (by rw [hs];exact List.mem_append_left _ hp),by rw [hs,List.length_append] at h3;omega⟩,?_⟩
 rcases Nat.lt_or_ge (k+1) s.length with e | e
 ·exact e
 ·have hd:s.drop (k+1)=[]:=List.drop_eq_nil_of_le e
  have:=h2 [] (by rw [hs,hd];exact List.mem_append_right _ (by simp [splitL]))
  exact absurd this (by decide)
theorem under_iff (t s:List UInt8):underB t s=true↔t∈parentsL s:=by
 unfold parentsL
 constructor
 ·intro h
  unfold underB at h
  simp only [Bool.and_eq_true,decide_eq_true_eq,beq_iff_eq] at h
  obtain ⟨⟨⟨⟨_,h2⟩,h3⟩,h4⟩,h5⟩:=h
  rw [if_pos h2,parP_mem]
  exact ⟨t.length,by omega,h5,h4.symm⟩
 ·intro h
  split at h
  ·rename_i hp
   obtain ⟨k,h1,h2,h3⟩:=parP_mem.1 h
   obtain ⟨g1,g2⟩:=pathB_cut hp h2
   have hl:t.length=k:=by rw [h3,List.length_take];omega
   unfold underB
   simp only [Bool.and_eq_true,decide_eq_true_eq,beq_iff_eq]
   rw [hl]
   exact ⟨⟨⟨⟨by rw [h3];exact g1,hp⟩,g2⟩,h3.symm⟩,h2⟩
  ·cases h
theorem parents_path {s x:List UInt8} (h:x∈parentsL s):pathB x=true:=by
 have:=(under_iff x s).2 h
 unfold underB at this
 simp only [Bool.and_eq_true] at this
 exact this.1.1.1.1
theorem parP_count (s:List UInt8):∀ n,n≤s.length→(parP s n).length=(s.take n).count 47
 | 0,_=>by simp [parP]
 | n+1,h=>by
  have ih:=parP_count s n (by omega)
  rw [List.take_succ_eq_append_getElem (by omega),List.count_append]
  by_cases e:s[n]?=some 47
  ·have e2:s[n]=47:=by rw [List.getElem?_eq_getElem (by omega)] at e;injection e
   rw [parP,if_pos e,List.length_append,ih,e2]
   rfl
  ·have e2:s[n]≠47:=fun h=>e (by rw [List.getElem?_eq_getElem (by omega),h])
   rw [parP,if_neg e,ih,List.count_cons_of_ne e2]
   rfl
theorem parents_len {s:List UInt8} (hp:pathB s=true):(parentsL s).length+1=(namesL s).length:=by
 unfold parentsL namesL
 rw [if_pos hp,if_pos hp,splitL_length,parP_count s _ (Nat.le_refl _),List.take_length]
end Go.Proofs.YtlkolcokjmlmjaaGreat.Tx
namespace Go.Proofs.YtlkolcokjmlmjaaGreat.Tx
abbrev bl (a b:List UInt8):Bool:=Op.bytesLess a b
theorem bl_nil (b:List UInt8):bl b []=false:=by cases b <;> rfl
theorem bl_cons (x y:UInt8) (a b:List UInt8):bl (x::a) (y::b)=(decide (x<y)||(x==y&&bl a b)):=by
 show Op.bytesLess _ _=_
 rw [Op.bytesLess]
theorem bl_irr (a:List UInt8):bl a a=false:=by
 induction a with
 | nil=>rfl
 | cons x a ih=>rw [bl_cons,ih];simp
theorem u8_tri (x y:UInt8):x<y∨x=y∨y<x:=by
 rcases Nat.lt_trichotomy x.toNat y.toNat with h | h | h
 ·exact .inl h
 ·exact .inr (.inl (UInt8.toNat_inj.1 h))
 ·exact .inr (.inr h)
theorem u8_nlt {x y:UInt8} (h:x<y):¬ y<x∧x≠y:=by
 have h':x.toNat<y.toNat:=h
 exact ⟨fun h2=>by have:y.toNat<x.toNat:=h2;omega,fun e=>by subst e;omega⟩
theorem bl_tri (a:List UInt8):∀ b:List UInt8,bl a b=true∨a=b∨bl b a=true:=by
 induction a with
 | nil=>intro b;cases b with | nil=>exact .inr (.inl rfl) | cons y b=>exact .inl rfl
 | cons x a ih =>
  intro b
  cases b with
  | nil=>exact .inr (.inr rfl)
  | cons y b =>
   rw [bl_cons,bl_cons]
   rcases u8_tri x y with h | h | h
   ·left;simp [h]
   ·subst h
    rcases ih b with h | h | h
    ·left;rw [h];simp
    ·right;left;rw [h]
    ·right;right;rw [h];simp
   ·right;right;simp [h]
theorem bl_asymm (a:List UInt8):∀ b:List UInt8,bl a b=true→bl b a=false:=by
 induction a with
 | nil=>intro b _;exact bl_nil b
 | cons x a ih =>
  intro b h
  cases b with
  | nil=>rw [bl_nil] at h;cases h
  | cons y b =>
   rw [bl_cons] at h ⊢
   rcases u8_tri x y with h1 | h1 | h1
   ·have:=u8_nlt h1
    simp [this.1]
    intro e;exact absurd e.symm this.2
   ·subst h1
    have hb:bl a b=true:=by simpa using h
    rw [ih b hb]
    simp
   ·have:=u8_nlt h1
    simp [this.1,this.2.symm] at h
theorem bl_trans (a:List UInt8):∀ b c:List UInt8,bl a b=true→bl b c=true→bl a c=true:=by
 induction a with
 | nil =>
  intro b c h1 h2
  cases c with
  | nil=>rw [bl_nil] at h2;cases h2
  | cons z c=>rfl
 | cons x a ih =>
  intro b c h1 h2
  cases b with
  | nil=>rw [bl_nil] at h1;cases h1
  | cons y b =>
   cases c with
   | nil=>rw [bl_nil] at h2;cases h2
   | cons z c =>
    rw [bl_cons] at h1 h2 ⊢
    rcases u8_tri x y with g1 | g1 | g1
    ·rcases u8_tri y z with g2 | g2 | g2
     ·have:x<z:=by have a1:x.toNat<y.toNat:=g1;have a2:y.toNat<z.toNat:=g2;show x.toNat<z.toNat;omega
      simp [this]
     ·subst g2;simp [g1]
     ·have:=u8_nlt g2
      simp [this.1,this.2.symm] at h2
    ·subst g1
     rcases u8_tri x z with g2 | g2 | g2
     ·simp [g2]
     ·subst g2
      have hb1:bl a b=true:=by simpa using h1
      have hb2:bl b c=true:=by simpa using h2
      rw [ih b c hb1 hb2]
      simp
     ·have:=u8_nlt g2
      simp [this.1,this.2.symm] at h2
    ·have:=u8_nlt g1
     simp [this.1,this.2.symm] at h1
def cmpL (a b:List UInt8):Int:=if bl a b then -1 else if a=b then 0 else 1
end Go.Proofs.YtlkolcokjmlmjaaGreat.Tx
