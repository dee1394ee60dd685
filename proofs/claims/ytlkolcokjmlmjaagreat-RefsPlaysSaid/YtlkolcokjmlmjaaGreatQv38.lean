/- Texts put together: VRg4, VGd5, VGw0, VGw1, VGw2. -/
import Derived.Test.YtlkolcokjmlmjaaGreatQv35
import Derived.Test.YtlkolcokjmlmjaaGreatQv33
import Derived.Test.YtlkolcokjmlmjaaGreatQv37
import Derived.Test.YtlkolcokjmlmjaaGreatQv28
import Derived.Test.YtlkolcokjmlmjaaGreatProg
import Derived.WalkKit
import Derived.Shelf.SlSortCmp.KitK
set_option linter.unusedVariables false
set_option linter.unusedSimpArgs false
namespace Go.Proofs.YtlkolcokjmlmjaaGreat.Tx
open Go.RowKit Go.Maps Go.Proofs.YtlkolcokjmlmjaaGreat.Sh
theorem bl_same (x:List UInt8) (a b:List UInt8):bl (x++a) (x++b)=bl a b:=by
 induction x with
 | nil=>rfl
 | cons c x ih =>
  rw [List.cons_append,List.cons_append,bl_cons,ih]
  simp
def Under1 (dir:List UInt8) (l:List (List UInt8)):Prop:=∀ p∈l,(dir++[47]).isPrefixOf p=true∧p.length≤1000
theorem last_cut {dir p:List UInt8} (h:(dir++[47]).isPrefixOf p=true):p=(dir++[47])++lastN dir p∧dir.length+1≤p.length∧lastN dir p=p.drop (dir.length+1):=by
 have h1:lastN dir p=p.drop (dir.length+1):=by unfold lastN;rw [if_pos h]
 obtain ⟨t,rfl⟩:=List.isPrefixOf_iff_prefix.1 h
 refine ⟨?_,by simp,h1⟩
 rw [h1]
 congr 1
 rw [List.drop_append_of_le_length (by simp),List.drop_of_length_le (by simp),List.nil_append]
theorem nms_strict {dir:List UInt8} {l:List (List UInt8)} (ho:l.Pairwise fun a b=>bl a b=true) (hu:Under1 dir l):Strict ((nmsL dir l).map str):=by
 refine List.pairwise_map.2 ?_
 unfold nmsL
 refine List.Pairwise.filter _ (List.pairwise_map.2 ?_)
 refine ho.imp_of_mem fun {a b} ha hb h=>?_
 rw [str_toList,str_toList]
 have e1:=(last_cut (hu a ha).1).1
 have e2:=(last_cut (hu b hb).1).1
 rw [e1,e2,bl_same] at h
 exact h
section
variable {c:CSt} {s:FSM} {i:Nat} {dir:List UInt8}
theorem TieG.lisp (h:TieG c s i) (hi:i≤380000) (hd:dir≠[]):(lisO c dir).Pairwise (fun a b=>bl a b=true)∧Under1 dir (lisO c dir)∧(lisO c dir).length≤(bgC c).c.here.length:=by
 have ho:=(h.bg (by omega)).ord
 have hs:=(h.go.bg.small (by omega)).hrow
 unfold lisO
 split
 ·unfold listC pathsM
  refine ⟨List.Pairwise.filter _ (List.pairwise_map.2 ho),fun p hp=>?_,?_⟩
  ·obtain ⟨h1,h2⟩:=List.mem_filter.1 hp
   obtain ⟨r,hr,rfl⟩:=List.mem_map.1 h1
   refine ⟨?_,(hs r hr).1⟩
   unfold hitC prefB at h2
   rw [decide_eq_false hd,Bool.false_or,Bool.and_eq_true] at h2
   obtain ⟨h3,h4⟩:=h2
   exact List.isPrefixOf_iff_prefix.2 ⟨r.path.drop (dir++[47]).length,by have h6:=List.take_append_drop (dir++[47]).length r.path;rw [beq_iff_eq.1 h4] at h6;exact h6⟩
  ·refine Nat.le_trans (List.length_filter_le _ _) ?_
   rw [List.length_map]
   exact Nat.le_refl _
 ·exact ⟨List.Pairwise.nil,fun p hp=>(by cases hp),Nat.zero_le _⟩
theorem TieG.rls (h:TieG c s i) (hi:i≤380000) (hd:dir≠[]):uniqT ((rlsV c dir).map str)=(rlsV c dir).map str∧(rlsV c dir).length≤(bgC c).c.here.length∧∀ n∈rlsV c dir,n.length≤1000:=by
 obtain ⟨h1,h2,h3⟩:=h.lisp hi hd
 unfold rlsV
 split
 ·refine ⟨(uniqT_eq (nms_strict h1 h2) (fun _=>Iff.rfl)).symm,Nat.le_trans (nms_len _ _) h3,fun n hn=>?_⟩
  unfold nmsL at hn
  obtain ⟨p,hp,rfl⟩:=List.mem_map.1 (List.mem_filter.1 hn).1
  exact Nat.le_trans (last_le _ _) (h2 p hp).2
 ·exact ⟨(uniqT_eq List.Pairwise.nil (fun _=>Iff.rfl)).symm,Nat.zero_le _,fun n hn=>(by cases hn)⟩
end
set_option maxRecDepth 100000 in
set_option maxHeartbeats 3200000 in
theorem rdirect_any (dir : List UInt8) (L : List (List UInt8)) (v : Value) (w : World) (h : SlV w v ((L.map str).map sv)) (hll : L.length ≤ 900000) (hdl : dir.length ≤ 1000) (hu : Under1 dir L) :
  Calls Tryz.prog 45 #[v,.string (Tx.str dir)] w (TextsPost w ((nmsL dir L).map str)):=by
 obtain ⟨pA,pc,rfl,pl1,pl2,hrd⟩:=h.len
 simp only [List.length_map] at pl1 hrd ⊢
 unfold maxLen at pl2
 obtain ⟨m,hm⟩:∃ m,L.length=m:=⟨_,rfl⟩
 rw [hm] at pl1 hll ⊢
 have HRD:=Lib.hid hrd
 have HMM:=Lib.hid hm
 have HLP:=Lib.hid hu
 have z4:=str_size dir
 obtain ⟨ld,hld⟩:∃ ld,dir.length=ld:=⟨_,rfl⟩
 have HLD:=Lib.hid hld
 rw [hld] at z4 hdl
 clear h hm hu hrd hld
 go_enter Tryz.func45,Tryz.ntmps45
 go_wp2_with fail
 go_loopw [5,6] (fun v i wr=>∃ k:Nat,k≤m∧i=.int .i64 k∧OwnV 9 wr w.heap.size v (((nmsL dir (L.take k)).map str).map sv)∧RowKit.Below w.heap.size w wr) (fun _ i _=>m - (intOf i).toNat)
 case atStart=>exact ⟨0,by omega,rfl,OwnV.nil_ _ _,Below.refl _ _⟩
 case round =>
  obtain ⟨k,hk,rfl,hof,hbe⟩:=hrel
  have k0:(0:Int)≤(k:Int):=by omega
  have HBE:=Lib.hid hbe
  have HO:=Lib.hid hof
  have hwz:=hbe.size
  by_cases hlt:k<m
  ·have k1:(k:Int)<(m:Int):=by omega
   have k2:(k:Int)≤(m:Int):=by omega
   have hkm:k<L.length:=by rw [HMM.out];exact hlt
   obtain ⟨q,hq⟩:∃ q,L[k]=q:=⟨_,rfl⟩
   have hqk:L[k]? = some q:=by rw [List.getElem?_eq_getElem hkm,hq]
   obtain ⟨hq1,hq2⟩:=HLP.out q (List.mem_of_getElem? hqk)
   have hq3:=(last_cut hq1).2.1
   have hq4:=(last_cut hq1).2.2
   have hkm':k<(L.map str).length:=by rw [List.length_map];exact hkm
   have hta:=texts_at (xs:=L.map str) (by simpa using HRD.out) k hkm'
   obtain ⟨ad,rfl,hcell⟩:=hta
   have hcell1:w.cell? (ad.add k)=some (.string (str q)):=by rw [hcell];simp [hq]
   have hcell2:wr.cell? (ad.add k)=some (.string (str q)):=by rw [hbe.cell (World.block_lt_of_cell? w _ hcell1)];exact hcell1
   have HNX:=Lib.hid (nms_next (dir:=dir) hqk)
   have hsm:((nmsL dir (L.take k)).map str).length+1≤2000000:=by
    rw [List.length_map]
    have h1:=nms_len dir (L.take k)
    rw [List.length_take] at h1
    omega
   have hlq:(lastN dir q).length≤1000:=Nat.le_trans (last_le _ _) hq2
   have z5:=str_size q
   obtain ⟨lq,hlqq⟩:∃ n,q.length=n:=⟨_,rfl⟩
   rw [HLD.out] at hq3 hq4
   have zx:(str q).extract (ld+1) lq=str (lastN dir q):=by rw [slice_str,hq4,← hlqq,List.take_length]
   rw [hlqq] at z5 hq3 hq2
   obtain ⟨l1,hl1⟩:∃ n,ld+1=n:=⟨_,rfl⟩
   rw [hl1] at zx hq3
   have i1:IntKind.i64.wrap ((ld:Int)+1)=(l1:Int):=by rw [show (ld:Int)+1=(l1:Int) by omega];exact IntWalk.i64_in _ (by omega)
   have i2:(0:Int)≤(l1:Int):=by omega
   have i3:(l1:Int)≤(lq:Int):=by omega
   obtain ⟨z,hz⟩:∃ z,lastN dir q=z:=⟨_,rfl⟩
   rw [hz] at HNX hlq zx
   have HZ:=Lib.hid hz
   clear hkm' hcell hcell1 hq hqk hkm hof hbe hz hq4 hq1 hlqq hl1 hq3
   obtain ⟨t,ht⟩:∃ t,nameB z=t:=⟨_,rfl⟩
   have HT:=Lib.hid ht
   clear ht
   go_wp2_with fail
   refine (rname_any z wr (by omega)).mono ?_
   rintro e w3 ⟨rfl,rfl⟩
   rw [HT.out]
   cases t with
   | false =>
    have HN:Hid (nmsL dir (L.take (k+1))=nmsL dir (L.take k)):=by have h:=HNX.out;rw [if_neg (by rw [HT.out];decide),List.append_nil] at h;exact h
    go_wp2_with fail
    go_roundw
    case rel=>exact ⟨k+1,by omega,by go_num,by rw [HN.out];exact HO.out,HBE.out⟩
    case measure=>simp [intOf];omega
   | true =>
    have HN:Hid (nmsL dir (L.take (k+1))=nmsL dir (L.take k)++[z]):=by have h:=HNX.out;rw [if_pos HT.out] at h;exact h
    go_wp2_with (at_builtin;refine append_text rfl (.tmp 24) (.tmp 26) rfl wr w.heap.size u5 ((nmsL dir (L.take k)).map str) rfl HO.out (str z) rfl hsm hwz ?_;intro v3 w3 ho3 hb3;have HO3:=Lib.hid ho3;have HB3:=Lib.hid hb3;clear ho3 hb3)
    go_roundw
    case rel =>
     refine ⟨k+1,by omega,by go_num,?_,HBE.out.trans (HB3.out.mono (Nat.le_refl _))⟩
     rw [HN.out]
     simpa using HO3.out
    case measure=>simp [intOf];omega
  ·obtain rfl:k=m:=by omega
   have hfin:OwnV 9 wr w.heap.size u5 (((nmsL dir L).map str).map sv):=by
    have:=HO.out
    rw [List.take_of_length_le (Nat.le_of_eq HMM.out)] at this
    exact this
   have HFIN:=Lib.hid hfin
   clear hfin
   go_wp2_with fail
   go_ret
   exact ⟨_,rfl,HFIN.out,HBE.out⟩
def RLis (F M:Nat→Prop) (w:World) (d:Nat) (c:CSt) (i:Nat) (n:Int) (l:List (List UInt8)) (e:Ending) (w':World):Prop :=
 ∃ v w1,e=.returned (.tuple #[v,.int .i64 n])∧RPost F M w d c i w1∧Below w1.heap.size w1 w'∧OwnV 9 w' w1.heap.size v ((l.map str).map sv)
theorem rlis_any {F M : Nat → Prop} {w : World} {d i : Nat} {c : CSt} (dir : List UInt8) (h : RAt F w d c i M) (hi : i ≤ 390000) (hd : dir.length ≤ 1000) :
  Calls Tryz.prog 43 #[.pointer (some ⟨d,0,none⟩),.string (Tx.str dir)] w (RLis F M w d (bgC c).c (i+1) (lisE c dir) (lisO c dir)):=by
 obtain ⟨s,h1,h2⟩:=h
 obtain ⟨N,hN⟩:=h2.ready hi
 obtain ⟨g1,g2⟩:=h2.lis hi dir
 refine (rlist_any F M d s N dir w h1 hN (by omega)).mono ?_
 rintro e w' ⟨v,w1,rfl,hp,hb,ho⟩
 rw [← g2] at ho
 exact ⟨v,w1,by rw [g1],⟨_,hp,h2.bg hi⟩,hb,ho⟩
set_option maxRecDepth 100000 in
set_option maxHeartbeats 3200000 in
theorem rlrefs_any {F M : Nat → Prop} {w : World} {d i : Nat} {c : CSt} (h : RAt F w d c i M) (hi : i ≤ 380000) :
  Calls Tryz.prog 15 #[.pointer (some ⟨d,0,none⟩)] w (RLis F M w d (bgC c).c (i+1) (lisE c refD) (rlsV c refD)):=by
 have H:=Lib.hid h
 obtain ⟨s,_,ht⟩:=h
 have HL:=Lib.hid (ht.lisp (dir:=refD) hi (by decide))
 have HR:=Lib.hid (ht.rls (dir:=refD) hi (by decide))
 have HS:Hid ((bgC c).c.here.length≤400000):=by
  obtain ⟨N,h1,h2⟩:=ht.go.bg.fits
  have:=h1.here
  show _≤_
  omega
 obtain ⟨re,hre⟩:∃ k,lisE c refD=k:=⟨_,rfl⟩
 have HRE:=Lib.hid hre
 clear ht hre
 go_enter Tryz.func15,Tryz.ntmps15
 go_wp2_with fail
 refine (rlis_any refD H.out (by omega) (by decide)).mono ?_
 rintro e w2 ⟨v,w1,rfl,hp,hb,ho⟩
 rw [HRE.out]
 have HP:=Lib.hid hp
 have HB:=Lib.hid hb
 have HO:=Lib.hid ho
 clear hp hb ho
 by_cases h0:re=0
 ·subst h0
  have HE:Hid (rlsV c refD=nmsL refD (lisO c refD)):=by unfold Hid rlsV;rw [HRE.out,if_pos rfl]
  go_wp2_with fail
  refine (rdirect_any refD (lisO c refD) v w2 HO.out.slv (by have h1:=HL.out.2.2;have h2:=HS.out;omega) (by decide) HL.out.2.1).mono ?_
  rintro e w3 ⟨v3,rfl,ho3,hb3⟩
  have HO3:=Lib.hid ho3
  have HB3:=Lib.hid hb3
  clear ho3 hb3
  go_wp2_with fail
  refine (runiq_any v3 _ w3 HO3.out.slv (by rw [List.length_map,← HE.out];have h1:=HR.out.2.1;have h2:=HS.out;omega)).mono ?_
  rintro e w4 ⟨v4,rfl,ho4,hb4⟩
  rw [← HE.out,HR.out.1] at ho4
  have HO4:=Lib.hid ho4
  have HB4:=Lib.hid hb4
  clear ho4 hb4
  go_wp2_with fail
  go_ret2
  have z2:=HB.out.size
  have z3:=HB3.out.size
  exact ⟨v4,w1,by rw [HRE.out];rfl,HP.out,(HB.out.trans (HB3.out.mono z2)).trans (HB4.out.mono (by omega)),HO4.out.base (by omega)⟩
 ·have HE:Hid (rlsV c refD=[]):=by unfold Hid rlsV;rw [HRE.out,if_neg h0]
  have y0:(re != 0)=true:=by simpa using h0
  have y1:(re==0)=false:=by rw [beq_eq_false_iff_ne];exact h0
  clear h0
  go_wp2_with fail
  go_ret2
  exact ⟨_,w1,by rw [HRE.out];rfl,HP.out,HB.out,by rw [HE.out];exact OwnV.nil_ _ _⟩
set_option maxRecDepth 100000 in
set_option maxHeartbeats 3200000 in
theorem runlock_any {F M : Nat → Prop} {w : World} {d i H0 : Nat} {c : CSt} (h : RAt F w d c i M) (hH : (bgC c).c.here.length ≤ H0) (hi : i + H0 ≤ 380000) :
  Calls Tryz.prog 18 #[.pointer (some ⟨d,0,none⟩)] w fun e w'=>e=.returned (.tuple #[.int .i64 (ulkN c),.int .i64 (ulkE c)])∧RPost F M w d (ulkC c) (i+1+H0) w':=by
 have H:=Lib.hid h
 obtain ⟨s,_,ht⟩:=h
 have HL:=Lib.hid (ht.lisp (dir:=lockD) (by omega) (by decide))
 have HR:=Lib.hid (ht.rls (dir:=lockD) (by omega) (by decide))
 have HS:=Lib.hid hH
 obtain ⟨re,hre⟩:∃ k,lisE c lockD=k:=⟨_,rfl⟩
 have HRE:=Lib.hid hre
 obtain ⟨c1,hc1⟩:∃ x,(bgC c).c=x:=⟨_,rfl⟩
 have HC1:=Lib.hid hc1
 clear ht hre hc1 hH
 go_enter Tryz.func18,Tryz.ntmps18
 go_wp2_with fail
 refine (rlis_any lockD H.out (by omega) (by decide)).mono ?_
 rintro e w2 ⟨v,w1,rfl,hp,hb,ho⟩
 rw [HRE.out]
 rw [HC1.out] at hp
 have HP:=Lib.hid hp
 have HB:=Lib.hid hb
 have HO:=Lib.hid ho
 clear hp hb ho
 by_cases h0:re=0
 ·subst h0
  obtain ⟨L,hL⟩:∃ k,rlsV c lockD=k:=⟨_,rfl⟩
  have HE0:Hid (L=nmsL lockD (lisO c lockD)):=by unfold Hid;rw [← hL];unfold rlsV;rw [HRE.out,if_pos rfl]
  have HRL:Hid (uniqT (L.map str)=L.map str∧L.length≤H0∧∀ n∈L,n.length≤1000):=by
   have h1:=HR.out
   rw [hL] at h1
   exact ⟨h1.1,Nat.le_trans h1.2.1 HS.out,h1.2.2⟩
  have HE:Hid (ulkE c=unlE c1 L∧ulkC c=unlC c1 L∧ulkN c=if ulkE c=0 then (L.length:Int) else 0):=⟨by unfold ulkE;rw [if_pos HRE.out,HC1.out,hL],by unfold ulkC;rw [if_pos HRE.out,HC1.out,hL],by unfold ulkN;rw [hL]⟩
  obtain ⟨m,hm⟩:∃ m,L.length=m:=⟨_,rfl⟩
  have HMM:=Lib.hid hm
  have hmH:m≤H0:=by have:=HRL.out.2.1;omega
  clear hL hm
  go_wp2_with fail
  refine (rdirect_any lockD (lisO c lockD) v w2 HO.out.slv (by have h1:=HL.out.2.2;have h2:=HS.out;omega) (by decide) HL.out.2.1).mono ?_
  rintro e w3 ⟨v3,rfl,ho3,hb3⟩
  have HO3:=Lib.hid ho3
  have HB3:=Lib.hid hb3
  clear ho3 hb3
  go_wp2_with fail
  refine (runiq_any v3 _ w3 HO3.out.slv (by rw [List.length_map,← HE0.out,HMM.out];omega)).mono ?_
  rintro e w4 ⟨v4,rfl,ho4,hb4⟩
  rw [← HE0.out,HRL.out.1] at ho4
  obtain ⟨M1,g1,g2,g3⟩:=HP.out.open_
  have HBX:Hid (Below w1.heap.size w1 w4):=by
   have z2:=HB.out.size
   have z3:=HB3.out.size
   exact (HB.out.trans (HB3.out.mono z2)).trans (hb4.mono (by omega))
  have HLT:=Lib.hid g1.lt
  have HA:=Lib.hid (g1.below HBX.out)
  have HFIN:Hid (∀ {ck:CSt} {j:Nat} {wr:World},RPost (grow F w w1 M1) M1 w4 d ck j wr→RPost F M w d ck j wr):=fun hp=>RPost.trans g2 g3 (RPost.of_below HBX.out hp)
  have hz34:w1.heap.size≤w3.heap.size:=by have z2:=HB.out.size;have z3:=HB3.out.size;omega
  obtain ⟨pA,pc,rfl,pl1,pl2⟩:=ho4.length
  simp only [List.length_map] at pl1 ho4 ⊢
  rw [HMM.out] at pl1 ho4 ⊢
  have HO4:=Lib.hid ho4
  clear ho4 hb4 g1 g2 g3
  go_wp2_with fail
  go_loopw [5,7] (fun ev i' wr=>∃ (k:Nat) (ck:CSt),k≤m∧i'=.int .i64 k∧ev=.int .i64 0∧RPost (grow F w w1 M1) M1 w4 d ck (i+1+k) wr∧unlE c1 L=unlE ck (L.drop k)∧unlC c1 L=unlC ck (L.drop k)) (fun _ i' _=>m - (intOf i').toNat)
  case atStart=>exact ⟨0,c1,by omega,rfl,rfl,RPost.refl HA.out,rfl,rfl⟩
  case round =>
   obtain ⟨k,ck,hk,rfl,rfl,hu,hek,hck⟩:=hrel
   have k0:(0:Int)≤(k:Int):=by omega
   have HU:=Lib.hid hu
   have HEK:=Lib.hid hek
   have HCK:=Lib.hid hck
   clear hu hek hck
   by_cases hlt:k<m
   ·have k1:(k:Int)<(m:Int):=by omega
    have k2:(k:Int)≤(m:Int):=by omega
    have hkm:k<L.length:=by rw [HMM.out];exact hlt
    obtain ⟨q,hq⟩:∃ q,L[k]=q:=⟨_,rfl⟩
    have hqk:L[k]? = some q:=by rw [List.getElem?_eq_getElem hkm,hq]
    have hql:q.length≤1000:=HRL.out.2.2 q (List.mem_of_getElem? hqk)
    have HDR:=Lib.hid (unl_drop (c:=ck) hqk)
    obtain ⟨Mk,a1,a4,a5⟩:=HU.out.open_
    have hcell2:∃ g,pA=some ⟨g,0,none⟩∧wr.cell? ⟨g,k,none⟩=some (.string (str q)):=by
     rcases HO4.out.blk with ⟨_,he⟩ | ⟨g,c',cur,he,hBg,hgl,hgb,_⟩
     ·have h1:=congrArg List.length he
      simp only [List.length_map,List.length_nil] at h1
      omega
     ·injection he with he1 _ _
      obtain ⟨A',c',he,_,_,hrd⟩:=HO4.out.slv.len
      injection he with he2 _ _
      subst he2
      simp only [List.length_map] at hrd
      have hkm':k<(L.map str).length:=by rw [List.length_map];exact hkm
      obtain ⟨ad,e1,hc⟩:=texts_at (xs:=L.map str) (by simpa using hrd) k hkm'
      rw [he1] at e1
      injection e1 with e1
      subst e1
      refine ⟨g,he1,?_⟩
      rw [Addr.add_mid,Nat.zero_add] at hc
      rw [a4.cell hgl (fun hm=>by have:=HLT.out g hm;omega),hc]
      simp [hq]
    obtain ⟨g,rfl,hcell⟩:=hcell2
    obtain ⟨er,her⟩:∃ x,remE ck (lockP q)=x:=⟨_,rfl⟩
    have HER:=Lib.hid her
    obtain ⟨cn,hcn⟩:∃ x,remC ck (lockP q)=x:=⟨_,rfl⟩
    have HCN:=Lib.hid hcn
    have HLQ:Hid ((lockP q).length≤900000):=by unfold Hid;rw [lockP_len];omega
    have hb2:¬ 9223372036854775807<4+(str q).size:=by rw [str_size];omega
    clear a1 a4 a5 hq hqk hkm her hcn
    go_wp2_with fail
    rw [rlock_cat]
    refine (rrem_any (lockP q) HU.out (by omega) HLQ.out).mono ?_
    rintro e w5 ⟨rfl,hp5⟩
    rw [HCN.out] at hp5
    rw [HER.out]
    have HU5:=Lib.hid hp5
    clear hp5
    by_cases hr0:er=0
    ·subst hr0
     have HN:Hid (unlE c1 L=unlE cn (L.drop (k+1))∧unlC c1 L=unlC cn (L.drop (k+1))):=by
      have h1:=HDR.out
      rw [if_pos HER.out,if_pos HER.out,HCN.out] at h1
      exact ⟨HEK.out.trans h1.1,HCK.out.trans h1.2⟩
     go_wp2_with fail
     go_roundw
     case rel=>exact ⟨k+1,cn,by omega,by go_num,rfl,HU5.out,HN.out.1,HN.out.2⟩
     case measure=>simp [intOf];omega
    ·have HN : Hid (ulkE c = er ∧ ulkC c = cn ∧ ulkN c = 0) := by
      have h1:=HDR.out
      rw [HER.out,if_neg hr0,if_neg hr0,HCN.out] at h1
      have h2:ulkE c=er:=HE.out.1.trans (HEK.out.trans h1.1)
      exact ⟨h2,HE.out.2.1.trans (HCK.out.trans h1.2),by rw [HE.out.2.2,h2,if_neg hr0]⟩
     have y0:(er != 0)=true:=by simpa using hr0
     have y1:(er==0)=false:=by rw [beq_eq_false_iff_ne];exact hr0
     clear hr0
     go_wp2_with fail
     go_ret2
     exact ⟨by rw [HN.out.1,HN.out.2.2];rfl,by rw [HN.out.2.1];exact (HFIN.out HU5.out).upto (by omega)⟩
   ·obtain rfl:k=m:=by omega
    have HN:Hid (ulkE c=0∧ulkC c=ck∧ulkN c=(k:Int)):=by
     have h1:L.drop k=[]:=by rw [List.drop_of_length_le (Nat.le_of_eq HMM.out)]
     have h2:ulkE c=0:=by rw [HE.out.1,HEK.out,h1];rfl
     exact ⟨h2,by rw [HE.out.2.1,HCK.out,h1];rfl,by rw [HE.out.2.2,h2,if_pos rfl,HMM.out]⟩
    go_wp2_with fail
    go_ret2
    exact ⟨by rw [HN.out.1,HN.out.2.2];rfl,by rw [HN.out.2.1];exact (HFIN.out HU.out).upto (by omega)⟩
 ·have HE : Hid (ulkE c = re ∧ ulkC c = c1 ∧ ulkN c = 0) := by
   have h1:ulkE c=re:=by unfold ulkE;rw [HRE.out,if_neg h0]
   exact ⟨h1,by unfold ulkC;rw [HRE.out,if_neg h0,HC1.out],by unfold ulkN;rw [h1,if_neg h0]⟩
  have y0:(re != 0)=true:=by simpa using h0
  have y1:(re==0)=false:=by rw [beq_eq_false_iff_ne];exact h0
  clear h0
  go_wp2_with fail
  go_ret2
  exact ⟨by rw [HE.out.1,HE.out.2.2];rfl,by rw [HE.out.2.1];exact (HP.out.then_below HB.out).upto (by omega)⟩
end Go.Proofs.YtlkolcokjmlmjaaGreat.Tx
namespace Go.Proofs.YtlkolcokjmlmjaaGreat.Tx
open Go.RowKit Go.Maps Go.Proofs.YtlkolcokjmlmjaaGreat.Sh
def opV (o:LOp) (dv pv:Value):Value:=.agg #[.int .i64 o.kind,.int .i64 o.mode,.int .i64 o.keep,.int .i64 o.torn,.string (str o.path),.string (str o.dest),dv,pv]
end Go.Proofs.YtlkolcokjmlmjaaGreat.Tx
namespace Go.Proofs.YtlkolcokjmlmjaaGreat.Wk
open Go.Shelf Go.RowKit Go.Lib Go.Sort
def swapN {α:Type} [Inhabited α] (d:Array α) (a b:Nat):Nat→Array α
 | 0=>d
 | n+1=>swp (swapN d a b n) (a+n) (b+n)
theorem swapN_size {α:Type} [Inhabited α] (d:Array α) (a b n:Nat):(swapN d a b n).size=d.size:=by
 induction n with
 | zero=>rfl
 | succ n ih=>rw [swapN,size_swp,ih]
structure TypesAs (P:Program) (k:Nat):Prop where
 mixed:P.follows .mixedOrders=true
 t3:P.underlying 3=some (TypeDesc.int IntKind.i64)
 a3:∀ w,(isAgg 3).run P w=.ok false w
 z3:∀ w,(Go.sizeOf 3).run P w=.ok 1 w
 t4:P.underlying 4=some TypeDesc.bool
 a4:∀ w,(isAgg 4).run P w=.ok false w
 z4:∀ w,(Go.sizeOf 4).run P w=.ok 1 w
 t33:P.underlying 33=some (TypeDesc.slice 109)
 a33:∀ w,(isAgg 33).run P w=.ok false w
 z33:∀ w,(Go.sizeOf 33).run P w=.ok 1 w
 tU:P.underlying 146=some (TypeDesc.int IntKind.u64)
 aU:∀ w,(isAgg 146).run P w=.ok false w
 zU:∀ w,(Go.sizeOf 146).run P w=.ok 1 w
 aE:∀ w,(isAgg 109).run P w=.ok true w
 zE:∀ w,(Go.sizeOf 109).run P w=.ok k w
set_option maxHeartbeats 4000000 in
set_option maxRecDepth 1000000 in
theorem swapRange_o {P : Program} {α : Type} [Inhabited α] {k : Nat} (T : TypesAs P k) (FG : P.funcs[189]? = some Tryz.f189) (enc : α → List Value) (fv : Value) (blk off cap a b n : Nat) (d0 d : Array α) (w0 w : World)
  (R:RowK enc k w0 blk off d0) (hs:d.size=d0.size) (S:SWK enc k w0 blk off d w) (ha:a+n≤d.size) (hb:b+n≤d.size) (hsz:d.size<4611686018427387904) :
  Calls P 189 #[.slice (some ⟨blk,off,none⟩) d.size cap,.int .i64 a,.int .i64 b,.int .i64 n,fv] w fun e w'=>e=.returned (.tuple #[])∧SWK enc k w0 blk off (swapN d a b n) w':=by
 have mixed:=T.mixed;have t3:=T.t3;have a3:=T.a3;have z3:=T.z3;have t4:=T.t4;have a4:=T.a4;have z4:=T.z4;have t33:=T.t33;have a33:=T.a33;have z33:=T.z33;have aE:=T.aE;have zE:=T.zE
 clear T
 have S0:Aside (SWK enc k w0 blk off d w):=S
 clear S
 go_enter FG,Tryz.ntmps189
 go_wp2
 go_loopg [10] n (fun kx s wr=>∃ i:Nat,s=.int .i64 i∧i≤n∧n - i≤kx∧Aside (SWK enc k w0 blk off (swapN d a b i) wr))
 case atStart=>exact ⟨0,rfl,Nat.zero_le _,by omega,S0⟩
 case round =>
  clear S0
  obtain ⟨i,rfl,hi,hkx,S1⟩:=hrel
  by_cases hlt:i<n
  ·have hlt':(i:Int)<(n:Int):=by omega
   go_wp2_with fail
   obtain ⟨D,hD⟩:∃ D,swapN d a b i=D:=⟨_,rfl⟩
   have hDs:D.size=d.size:=by rw [← hD,swapN_size]
   obtain ⟨x,hx⟩:∃ x,a+i=x:=⟨_,rfl⟩
   obtain ⟨y,hy⟩:∃ y,b+i=y:=⟨_,rfl⟩
   have hnx:swapN d a b (i+1)=swp D x y:=by rw [swapN,hD,hx,hy]
   rw [hD] at S1
   have hxD:x<D.size:=by omega
   have hyD:y<D.size:=by omega
   have hxi:(a:Int)+(i:Int)=(x:Int):=by omega
   have hyi:(b:Int)+(i:Int)=(y:Int):=by omega
   have ea44:((x:Int)).toNat=x:=by omega
   have pa44:(0:Int)≤(x:Int):=by omega
   have ba44:(x:Int)<(d.size:Int):=by omega
   have ra44:IntKind.i64.wrap ((x:Int))=(x:Int):=by rw [IntKind.wrap_i64];omega
   have ec44:((y:Int)).toNat=y:=by omega
   have pc44:(0:Int)≤(y:Int):=by omega
   have bc44:(y:Int)<(d.size:Int):=by omega
   have rc44:IntKind.i64.wrap ((y:Int))=(y:Int):=by rw [IntKind.wrap_i64];omega
   have S2:Aside (SWK enc k w0 blk off (swp D x y) ((wr.drew.setCells blk (off+x*k) (enc D[y]!)).setCells blk (off+y*k) (enc D[x]!))):=S1.out.swapped R x y hxD hyD
   have l44a:=S1.out.ld1 R (by omega) P x hxD
   have l44b:=S1.out.ld1 R (by omega) P y hyD
   have s44a:=S1.out.st1 R (by omega) P x hxD D[y]!
   have s44b:=S1.out.st2 R (by omega) P x y hxD hyD D[y]! D[x]!
   have n44a:(enc D[x]!).length=k:=R.hk _
   have n44b:(enc D[y]!).length=k:=R.hk _
   generalize enc D[x]! = cI44 at S2 l44a s44b n44a
   generalize enc D[y]! = cJ44 at S2 l44b s44a s44b n44b
   have HNX:Aside (swapN d a b (i+1)=swp D x y):=hnx
   clear S1 hD hDs hx hy hnx hxD hyD
   go_big_region_o
   clear l44a l44b s44a s44b
   generalize (wr.drew.setCells blk (off+x*k) cJ44).setCells blk (off+y*k) cI44=w2 at S2 ⊢
   go_wp2
   go_roundg (n - (i+1))
   case measure=>omega
   case rel=>exact ⟨i+1,by simp,by omega,Nat.le_refl _,by rw [HNX.out];exact S2⟩
  ·have hlt':¬ (i:Int)<(n:Int):=by omega
   obtain rfl:i=n:=by omega
   go_wp2
   go_end0
   exact ⟨rfl,S1.out⟩
end Go.Proofs.YtlkolcokjmlmjaaGreat.Wk
namespace Go.Proofs.YtlkolcokjmlmjaaGreat.Wk
open Go.Shelf Go.RowKit Go.Lib Go.Sort
def Moved {α:Type} [Inhabited α] (d d':Array α):Prop:=d'.size=d.size∧∀ i,i<d.size→∃ j,j<d.size∧d'[i]! = d[j]!
section
variable {α:Type} [Inhabited α]
end
def StepPost {α:Type} [Inhabited α] (enc:α→List Value) (k:Nat) (w0:World) (blk off:Nat) (d:Array α) (e:Ending) (w':World):Prop:=e=.returned (.tuple #[])∧∃ d',Moved d d'∧SWK enc k w0 blk off d' w'
section
variable {P:Program} {α:Type} [Inhabited α] {k:Nat}
end
end Go.Proofs.YtlkolcokjmlmjaaGreat.Wk
namespace Go.Proofs.YtlkolcokjmlmjaaGreat.Wk
open Go.Shelf Go.RowKit Go.Lib Go.Sort
def cmpI (x y:Int):Int:=if x<y then -1 else if y<x then 1 else 0
set_option maxRecDepth 100000 in
set_option maxHeartbeats 400000 in
theorem isNaN_any (x:Int) (w:World):Calls Tryz.prog 144 #[.int .i64 x] w fun e w'=>e=.returned (.bool false)∧w'=w:=by
 go_enter Tryz.func144,Tryz.ntmps144
 go_wp2_with fail
 go_ret
 exact ⟨by simp,rfl⟩
set_option maxRecDepth 100000 in
set_option maxHeartbeats 800000 in
theorem compare_any (x y:Int) (w:World):Calls Tryz.prog 115 #[.int .i64 x,.int .i64 y] w fun e w'=>e=.returned (.int .i64 (cmpI x y))∧w'=w:=by
 go_enter Tryz.func115,Tryz.ntmps115
 go_wp2_with fail
 refine (isNaN_any x _).mono ?_
 rintro e w1 ⟨rfl,rfl⟩
 go_wp2_with fail
 refine (isNaN_any y _).mono ?_
 rintro e w1 ⟨rfl,rfl⟩
 by_cases h1:x<y
 ·have HC:Hid (cmpI x y=-1):=by unfold Hid cmpI;rw [if_pos h1]
  go_wp2_with fail
  go_ret
  exact ⟨by rw [HC.out];rfl,rfl⟩
 ·by_cases h2:y<x
  ·have HC:Hid (cmpI x y=1):=by unfold Hid cmpI;rw [if_neg h1,if_pos h2]
   go_wp2_with fail
   go_ret
   exact ⟨by rw [HC.out];rfl,rfl⟩
  ·have HC:Hid (cmpI x y=0):=by unfold Hid cmpI;rw [if_neg h1,if_neg h2]
   go_wp2_with fail
   go_ret
   exact ⟨by rw [HC.out];rfl,rfl⟩
set_option maxRecDepth 100000 in
set_option maxHeartbeats 800000 in
theorem plan2_any (x y:Int) (a1 a2 a3 a4 a5 a6 b1 b2 b3 b4 b5 b6:Value) (w:World):Calls Tryz.prog 114 #[.agg #[.int .i64 x,a1,a2,a3,a4,a5,a6],.agg #[.int .i64 y,b1,b2,b3,b4,b5,b6]] w fun e w'=>e=.returned (.int .i64 (cmpI x y))∧∃ q os,w'=grow (w.drewN q) os:=by
 go_enter Tryz.func114,Tryz.ntmps114
 go_wp2_with fail
 refine (compare_any x y _).mono ?_
 rintro e w1 ⟨rfl,h1⟩
 subst h1
 go_wp2_with fail
 go_ret
 refine ⟨rfl,0,#[.cells #[.int .i64 x,a1,a2,a3,a4,a5,a6] 109,.cells #[.int .i64 y,b1,b2,b3,b4,b5,b6] 109],?_⟩
 rw [alloc_eq_grow,alloc_eq_grow,grow_grow]
 rfl
end Go.Proofs.YtlkolcokjmlmjaaGreat.Wk
