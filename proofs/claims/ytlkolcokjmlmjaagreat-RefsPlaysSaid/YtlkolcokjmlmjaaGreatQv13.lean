/- Texts put together: VGt2, VGt3, VGt4. -/
import Derived.Test.YtlkolcokjmlmjaaGreatQv12
import Derived.Shelf.SlMaps.Clone
namespace Go.Proofs.YtlkolcokjmlmjaaGreat.Tx
open Go.RowKit Go.Maps Go.Proofs.YtlkolcokjmlmjaaGreat.Sh
abbrev zeroFile:Value:=.agg #[.int .i64 0,.slice none 0 0,.int .i64 0]
theorem zeroF (w:World):(zeroValue 91).run Tryz.prog w=.ok zeroFile w:=by kernel_rfl
theorem look_hit {F:Nat→Prop} {w:World} {R:List RowM} {D:DataW Value} (h:FilesOK F w R D) {r:RowM} (hr:r∈R):∃ d,By F w d r.f.data∧∀ v ps,hv v=some (D.atKey (.string r.path) (.held zeroFile),ps)→v=fileV r.f d:=by
 obtain ⟨d,h1,h2⟩:=h.at_ r hr
 refine ⟨d,h1,fun v ps hv'=>?_⟩
 rw [h2] at hv'
 unfold hv at hv'
 injection hv' with hv'
 injection hv' with h3 _
 injection h3
theorem look_miss {F:Nat→Prop} {w:World} {R:List RowM} {D:DataW Value} (h:FilesOK F w R D) {p:List UInt8} (hp:standsM R p=false):∀ v ps,hv v=some (D.atKey (.string p) (.held zeroFile),ps)→v=zeroFile:=by
 intro v ps hv'
 rw [Maps.atKey_of_not_has (by rw [h.has_];exact hp)] at hv'
 unfold hv at hv'
 injection hv' with hv'
 injection hv' with h3 _
 injection h3
theorem DirsU.less {F:Nat→Prop} {w w2 w3:World} {bu:Nat} {c c':List UInt8→Nat} {D:DataW Unit} (h:DirsU F w w2 bu c) (hu:UnderOK c D) (hm:Maps.IsMap D) {n:Nat} {q:List UInt8} {j:Nat} (hj:c' q=j) (hj0:0<j) (hown:w3.ownsMap Tryz.prog 9 (plainElem Tryz.prog 3) bu n (D.put (.string q) (.lit (.int .i64 j)))) (hg:w2.grownBy w3 (some bu)) (hc:∀ p,p≠q→c' p=c p):DirsU F w w3 bu c' :=
 ⟨⟨_,own_exact hown,hu.put hm q j hj0 hj hc⟩,h.only.trans (M':=fun k=>k=bu) (grown_only hg rfl) (fun _ hk=>.inl hk)⟩
theorem turned_only {M:Nat→Prop} {w w':World} {g:Nat} (h:w.mapTurned w' g) (hg:M g):Only M w w':=grown_only h.grown hg
theorem DirsU.none_ {F:Nat→Prop} {w w2 w3 w4:World} {bu:Nat} {c c':List UInt8→Nat} {D:DataW Unit} (h:DirsU F w w2 bu c) (hu:UnderOK c D) {n:Nat} {q:List UInt8} {v:DataW Unit} (hj:c' q=0) (hg:w2.grownBy w3 (some bu)) (hown:w4.ownsMap Tryz.prog 9 (plainElem Tryz.prog 3) bu n ((D.put (.string q) v).del (.string q))) (ht:w3.mapTurned w4 bu) (hc:∀ p,p≠q→c' p=c p):DirsU F w w4 bu c' :=
 ⟨⟨_,own_exact hown,UnderOK.del hu q v rfl hj hc⟩,(h.only.trans (M':=fun k=>k=bu) (grown_only hg rfl) (fun _ hk=>.inl hk)).trans (M':=fun k=>k=bu) (turned_only ht rfl) (fun _ hk=>.inl hk)⟩
theorem count_drop {l:List (List UInt8)} {k:Nat} {q p:List UInt8} (hq:l[k]?=some q):(l.drop k).count p=(l.drop (k+1)).count p+if p=q then 1 else 0:=by
 have hk:=(List.getElem?_eq_some_iff.1 hq).1
 have he:=(List.getElem?_eq_some_iff.1 hq).2
 rw [List.drop_eq_getElem_cons hk,he,List.count_cons]
 by_cases h:p=q
 ·subst h;simp
 ·rw [if_neg h,if_neg (by simpa using fun e=>h e.symm)]
theorem TreeX.take {F : Nat → Prop} {w w1 w2 w3 : World} {t bf bu : Nat} {R : List RowM} {r : RowM} {D : DataW Value} {n : Nat} (h : TreeX F w t R bf bu) (hF : ∀ k, F k → ¬ treeM t bf bu k) (hr : r ∈ R)
  (hD:FilesOK F w R D) (hown:w1.ownsMap Tryz.prog 9 hv bf n (D.del (.string r.path))) (ho1:Only (fun k=>k=bf) w w1) (ho2:Only (fun k=>k=t) w1 w2) (hb:Blk w2 t 115 #[.map (some bf),.map (some bu),.int .i64 ((usedM R:Int) - r.f.data.length)])
  (hU:DirsU F w2 w3 bu (cntM (withoutM R r.path))):TreeX F w3 t (withoutM R r.path) bf bu∧Only (treeM t bf bu) w w3:=by
 have ho3:=hU.only
 have hon:Only (treeM t bf bu) w w3:=((ho1.more (M':=treeM t bf bu) (fun k _ e=>.inr (.inl e))).trans (ho2.more (M':=treeM t bf bu) (fun k _ e=>.inl e)) (fun _ hk=>.inl hk)).trans (ho3.more (M':=treeM t bf bu) (fun k _ e=>.inr (.inr e))) (fun _ hk=>.inl hk)
 refine ⟨⟨?_,⟨_,own_only (own_only (own_exact hown) ho2 h.f_ne) ho3 h.ne,(hD.del r.path).only hon hF⟩,hU.own,h.ne,without_ord h.ord _⟩,hon⟩
 have h1:=used_without r.path h.ord
 have h2:=used_row hr rfl h.ord
 have:((usedM R:Int) - r.f.data.length)=((usedM (withoutM R r.path):Nat):Int):=by omega
 rw [this] at hb
 exact ho3.blk hb (fun e=>h.u_ne e.symm)
set_option maxRecDepth 100000 in
set_option maxHeartbeats 3200000 in
theorem ttake_no (F : Nat → Prop) (t bf bu : Nat) (R : List RowM) (p : List UInt8) (w : World) (h : TreeX F w t R bf bu) (hno : standsM R p = false) (hp : p.length ≤ 1000000) :
  Calls Tryz.prog 154 #[.pointer (some ⟨t,0,none⟩),.string (str p)] w fun e w'=>e=.returned (.tuple #[])∧Below w.heap.size w w':=by
 obtain ⟨D,hown,hfo⟩:=h.files
 have c0:w.cell? ⟨t,0,none⟩=some (.map (some bf)):=h.blk.cell 0
 have hhas:Maps.has D (.string p)=false:=by rw [hfo.has_];exact hno
 have HOWN:=Lib.hid hown
 have HKEY:=Lib.hid (key_str p hp)
 have HMISS:=Lib.hid (look_miss hfo hno)
 clear h hown hfo hno
 go_enter Tryz.func154,Tryz.ntmps154
 go_wp2_with (at_lookup;refine wpList_lookup_own_ok _ rfl _ _ 112 rfl 9 91 lawS Tryz.underlying112 hv (zeroF _) (.held zeroFile) [] rfl bf _ D rfl (by exact HOWN.out) _ (.string p) rfl (by exact HKEY.out) ?_;intro v ps hv';obtain rfl:=HMISS.out v ps hv';rw [hhas];clear hv')
 refine bodyPost_ret (v:=.tuple #[]) (by simp [results,Tryz.results154,go_sem]) rfl ⟨rfl,?_⟩
 exact (Below.refl _ _).alloc (Nat.le_refl _) _
set_option maxRecDepth 100000 in
set_option maxHeartbeats 6400000 in
theorem ttake_yes (F : Nat → Prop) (t bf bu : Nat) (R : List RowM) (r : RowM) (w : World) (h : TreeX F w t R bf bu) (hr : r ∈ R) (hF : ∀ k, F k → ¬ treeM t bf bu k) (hp : r.path.length ≤ 1000000) (hR : R.length ≤ 1000000) (hu : usedM R ≤ 4000000000000) :
  Calls Tryz.prog 154 #[.pointer (some ⟨t,0,none⟩),.string (str r.path)] w fun e w'=>e=.returned (.tuple #[])∧TreeX F w' t (withoutM R r.path) bf bu∧Only (treeM t bf bu) w w':=by
 obtain ⟨D,hown,hfo⟩:=h.files
 obtain ⟨p,hpe⟩:∃ p,r.path=p:=⟨_,rfl⟩
 have HPE:=Lib.hid hpe
 obtain ⟨u,hu'⟩:∃ u,usedM R=u:=⟨_,rfl⟩
 obtain ⟨l,hl'⟩:∃ l,r.f.data.length=l:=⟨_,rfl⟩
 have hul:l≤u:=by
  have h1:=used_without r.path h.ord
  have h2:=used_row hr rfl h.ord
  omega
 have hblk:=h.blk
 rw [hu'] at hblk hu
 have c0:w.cell? ⟨t,0,none⟩=some (.map (some bf)):=hblk.cell 0
 have hhas:Maps.has D (.string p)=true:=by rw [hfo.has_,← hpe];exact stands_iff.2 ⟨r,hr,rfl⟩
 obtain ⟨d,hd,hhit⟩:=look_hit hfo hr
 obtain ⟨dA,dc,rfl,_,_⟩:=hd.slice
 rw [hpe] at hhit
 unfold fileV at hhit
 rw [hl'] at hhit
 rw [hpe] at hp ⊢
 have HOWN:=Lib.hid hown
 have HKEY:=Lib.hid (key_str p hp)
 have HHIT:=Lib.hid hhit
 have HX:=Lib.hid h
 have HFO:=Lib.hid hfo
 have HU:=Lib.hid hu'
 have HL:=Lib.hid hl'
 have HBLK:=Lib.hid hblk
 have HR:=Lib.hid hR
 have HRR:=Lib.hid hr
 have htl:t<w.heap.size:=h.lt t (.inl rfl)
 have HTL:=Lib.hid htl
 have HFL:Hid (bf<w.heap.size):=h.lt bf (.inr (.inl rfl))
 have HUL:Hid (bu<w.heap.size):=h.lt bu (.inr (.inr rfl))
 clear h hown hfo hhit hd hu' hl' hblk hR hr hpe htl
 have c0a:(w.alloc (.cells #[.int .i64 r.f.mode,.slice dA l dc,.int .i64 r.f.time] 91)).cell? ⟨t,0,none⟩=some (.map (some bf)):=(HBLK.out.alloc _).cell 0
 go_enter Tryz.func154,Tryz.ntmps154
 have tok1:True:=trivial
 go_wp2_with (first
  | (at_lookup;have _t:=tok1;refine wpList_lookup_own_ok _ rfl _ _ 112 rfl 9 91 lawS Tryz.underlying112 hv (zeroF _) (.held zeroFile) [] rfl bf _ D rfl (by exact HOWN.out) _ (.string p) rfl (by exact HKEY.out) ?_;intro v ps hv';obtain rfl:=HHIT.out v ps hv';rw [hhas];clear hv' tok1)
  | (at_delete;refine wpList_delete_own _ rfl _ _ 112 9 rfl 91 lawS Tryz.underlying112 hv bf _ D rfl (by exact own_only HOWN.out ((Only.refl (fun _=>False) w).alloc _) id) _ (.string p) rfl (by exact HKEY.out) ?_;intro w1 hown1 hturn1;have HOWN1:=Lib.hid hown1;have HT1:=Lib.hid hturn1;clear hown1 hturn1))
 have hne1:some t≠some bf:=fun e=>HX.out.f_ne (by injection e with e;exact e.symm)
 have hblk1:=(HBLK.out.alloc (.cells #[.int .i64 r.f.mode,.slice dA l dc,.int .i64 r.f.time] 91)).grown HT1.out.grown hne1
 have hbox1:=(Blk.new w 91 #[.int .i64 r.f.mode,.slice dA l dc,.int .i64 r.f.time]).grown HT1.out.grown (fun e=>by injection e with e;have:=HFL.out;omega)
 have o1:Only (fun k=>k=bf) w w1:=((Only.refl (fun _=>False) w).alloc _ |>.more (fun _ _ h=>h.elim)).trans (M':=fun k=>k=bf) (turned_only HT1.out rfl) (fun _ hk=>.inl hk)
 have c2:w1.cell? ⟨t,2,none⟩=some (.int .i64 u):=hblk1.cell 2
 have c2f:w1.frozen? ⟨t,2,none⟩=false:=hblk1.frozen 2
 have e1:w1.cell? ⟨w.heap.size,1,none⟩=some (.slice dA l dc):=hbox1.cell 1
 have HBLK1:=Lib.hid hblk1
 have HO1:=Lib.hid o1
 have u0:(0:Int)≤(u:Int):=by omega
 have u1:(u:Int)≤4000000000000:=by omega
 have l0:(0:Int)≤(l:Int):=by omega
 have l1:(l:Int)≤(u:Int):=by omega
 clear hne1 hblk1 hbox1 o1 c0 c0a hu hul hhas
 go_still_tail 10,(by kernel_rfl)
 change wpList _ _ _ _ _ w1.drew
 go_wp2_with fail
 have hblk2:Blk ((w1.setCell ⟨t,2,none⟩ (.int .i64 ((u:Int) - (l:Int)))).drew) t 115 #[.map (some bf),.map (some bu),.int .i64 ((u:Int) - (l:Int))]:=(HBLK1.out.set_ 2 (.int .i64 ((u:Int) - (l:Int)))).drew
 have o2:Only (fun k=>k=t) w1 ((w1.setCell ⟨t,2,none⟩ (.int .i64 ((u:Int) - (l:Int)))).drew):=(Only.set_ (M:=fun k=>k=t) (g:=t) (i:=2) (Only.refl _ w1) (.inl rfl) _).drew
 generalize (w1.setCell ⟨t,2,none⟩ (.int .i64 ((u:Int) - (l:Int)))).drew=w2 at *
 refine (nparents_any p _ hp).mono ?_
 rintro e w3 ⟨v,rfl,ho3,hb3⟩
 have HB3:=Lib.hid hb3
 have HBLK3:=Lib.hid (hblk2.below hb3 hblk2.lt)
 have HO3:=Lib.hid (o2.then_below hb3)
 obtain ⟨pA,pc,rfl,pl1,pl2⟩:=ho3.length
 simp only [List.length_map] at pl1 ⊢
 have HP:=Lib.hid ho3
 have hw2z:bu<w2.heap.size:=Nat.lt_of_lt_of_le HUL.out (Nat.le_trans HO1.out.size o2.size)
 have HW2:=Lib.hid hw2z
 clear hw2z
 obtain ⟨m,hm⟩:∃ m,(parentsL p).length=m:=⟨_,rfl⟩
 have hm7:m≤7:=by rw [← hm];exact parents_few p
 rw [hm] at pl1 ⊢
 have HMM:=Lib.hid hm
 have c1:w3.cell? ⟨t,1,none⟩=some (.map (some bu)):=HBLK3.out.cell 1
 clear hblk2 o2 ho3 hb3 hm c2 c2f e1
 have hcs:∀ q,cntM R q=cntM (withoutM R p) q+(parentsL p).count q:=fun q=>by have:=cnt_without HX.out.ord HRR.out q;rw [HPE.out] at this;exact this
 have hu3:DirsU F w3 w3 bu (fun q=>cntM (withoutM R p) q+((parentsL p).drop 0).count q):=by
  obtain ⟨E,h1,h2⟩:=HX.out.under
  refine ⟨⟨E,own_only (own_only h1 HO1.out (fun e=>HX.out.ne e.symm)) HO3.out HX.out.u_ne,fun q=>?_⟩,Only.refl _ _⟩
  have:=h2 q
  rw [hcs q] at this
  exact this
 have HU3:=Lib.hid hu3
 have HCS:=Lib.hid hcs
 clear hu3 hcs
 go_wp2_with fail
 go_loopw [37] (fun i wr=>∃ k:Nat,k≤m∧i=.int .i64 k∧DirsU F w3 wr bu (fun q=>cntM (withoutM R p) q+((parentsL p).drop k).count q)) (fun i _=>m - (intOf i).toNat)
 case atStart=>exact ⟨0,by omega,rfl,HU3.out⟩
 case round =>
  obtain ⟨k,hk,rfl,hdu⟩:=hrel
  have k0:(0:Int)≤(k:Int):=by omega
  have HDU:=Lib.hid hdu
  by_cases hlt:k<m
  ·have k1:(k:Int)<(m:Int):=by omega
   have k2:(k:Int)≤(m:Int):=by omega
   have hkm:k<(parentsL p).length:=by rw [HMM.out];exact hlt
   obtain ⟨q,hq⟩:∃ q,(parentsL p)[k]=q:=⟨_,rfl⟩
   have hqk:(parentsL p)[k]?=some q:=by rw [List.getElem?_eq_getElem hkm,hq]
   have hql:q.length≤1000000:=by
    have:=parents_path (List.mem_of_getElem? hqk)
    have:=((pathB_iff q).1 this).1
    omega
   have hor:Only (fun k=>k=bu) w3 wr:=hdu.only
   have hov:=hor.own HP.out (fun g hg e=>by have:=(HP.out.lt g hg).1;have:=HW2.out;omega)
   obtain ⟨A',c',he,_,_,hrd⟩:=hov.slv.len
   injection he with he1 he2 he3
   subst he1
   simp only [List.length_map] at hrd
   have hkm':k<((parentsL p).map str).length:=by rw [List.length_map];exact hkm
   have hta:=texts_at (xs:=(parentsL p).map str) (by simpa using hrd) k hkm'
   obtain ⟨ad,rfl,hcell⟩:=hta
   have hcell2:wr.cell? (ad.add k)=some (.string (str q)):=by rw [hcell];simp [hq]
   have hblkr:=hor.blk HBLK3.out (fun e=>HX.out.u_ne e.symm)
   have HBLKR:=Lib.hid hblkr
   have c1r:wr.cell? ⟨t,1,none⟩=some (.map (some bu)):=hblkr.cell 1
   obtain ⟨E,hE1,hE2⟩:=hdu.own
   obtain ⟨j,hj⟩:∃ j,cntM (withoutM R p) q+((parentsL p).drop (k+1)).count q=j:=⟨_,rfl⟩
   have hcj:cntM (withoutM R p) q+((parentsL p).drop k).count q=j+1:=by rw [count_drop hqk,if_pos rfl,← hj,Nat.add_assoc]
   have hat0:E.atKey (.string q) (.lit (.int .i64 0))=.lit (.int .i64 ((j:Int)+1)):=by have h:E.atKey (.string q) (.lit (.int .i64 0))=.lit (.int .i64 ((cntM (withoutM R p) q+((parentsL p).drop k).count q:Nat):Int)):=(hE2 q).2;rw [hcj] at h;rw [h];rfl
   have hccb:j≤8000000:=by
    rw [← hj]
    have h1:=cnt_le (withoutM R p) q
    have h2:((parentsL p).drop (k+1)).count q≤7:=Nat.le_trans List.count_le_length (by rw [List.length_drop,HMM.out];omega)
    have h3:(withoutM R p).length≤R.length:=List.length_filter_le _ _
    have:=HR.out
    omega
   have hesz:Maps.size E<maxLen:=by
    have h1:=hE2.small hE1 (ds:=dirsM (withoutM R p)++(parentsL p).drop k) (fun x=>by rw [List.count_append];exact Nat.le_refl _)
    have h2:=dirs_len (withoutM R p)
    have h3:(withoutM R p).length≤R.length:=List.length_filter_le _ _
    have:=HR.out
    rw [List.length_append,List.length_drop] at h1
    have:=parents_few p
    unfold maxLen
    omega
   have HE1:=Lib.hid hE1
   have HE2:=Lib.hid hE2
   have HESZ:=Lib.hid hesz
   have HJ:=Lib.hid hj
   have HCJ:=Lib.hid hcj
   have HAT:=Lib.hid hat0
   have HKQ:=Lib.hid (key_str q hql)
   have HQK:=Lib.hid hqk
   have hc0:(0:Int)≤(j:Int):=by omega
   have hc1:(j:Int)≤8000000:=by omega
   have HIM:Hid (Maps.IsMap E):=hE1.isMap
   have HC:Hid (∀ x,x≠q→cntM (withoutM R p) x+((parentsL p).drop (k+1)).count x=cntM (withoutM R p) x+((parentsL p).drop k).count x):=fun x hx=>by rw [count_drop HQK.out,if_neg hx];rfl
   clear hor hov hrd hkm' hcell hE1 hE2 hesz hj hcj hat0 hq hqk hql hkm hccb hdu hblkr
   have tok2:True:=trivial
   obtain ⟨z,hz⟩:∃ z,((j:Int)==0)=z:=⟨_,rfl⟩
   have HZ:=Lib.hid hz
   cases z with
   | true =>
    go_wp2_with (first
     | (at_lookup;have _t:=tok2;refine wpList_lookup_own_int _ rfl _ _ 113 rfl 9 3 .i64 lawS Tryz.underlying113 Tryz.underlying3 (zeroI _) bu _ E rfl (by exact HE1.out) _ _ rfl (by exact HKQ.out) ?_;intro c hat hwc;obtain rfl:c=(j:Int)+1:=(by have h:=hat.symm.trans HAT.out;injection h with h;injection h with h);clear hat hwc tok2)
     | (at_mapUpdate;refine wpList_mapUpdate_own _ rfl _ _ _ 113 rfl 9 3 lawS Tryz.underlying113 _ bu _ E rfl (by exact HE1.out) (by exact HESZ.out) _ _ (.string q) rfl rfl (by exact HKQ.out) (.lit (.int .i64 (j:Int))) [] (by first | exact plainElem_int Tryz.underlying3 (WalkArith.wf_i64 (by omega)) | (rw [show ((j:Int)+1 - 1)=(j:Int) from by omega];exact plainElem_int Tryz.underlying3 (WalkArith.wf_i64 (by omega)))) ?_;intro w4 hown4 hgrow4;have HOWN4:=Lib.hid hown4;have HG4:=Lib.hid hgrow4;have c1w:w4.cell? ⟨t,1,none⟩=some (.map (some bu)):=(HBLKR.out.grown hgrow4 (fun e=>HX.out.u_ne (by injection e with e;exact e.symm))).cell 1;have tok4:True:=trivial;clear hown4 hgrow4)
     | (at_lookup;have _t:=tok4;refine wpList_lookup_own_int _ rfl _ _ 113 rfl 9 3 .i64 lawS Tryz.underlying113 Tryz.underlying3 (zeroI _) bu _ _ rfl (by exact HOWN4.out) _ _ rfl (by exact HKQ.out) ?_;intro c hat hwc;obtain rfl:c=(j:Int):=(by have h:=hat.symm.trans (Maps.atKey_put_same HIM.out (isK q) _ _);injection h with h;injection h with h);clear hat hwc tok4)
     | (at_delete;refine wpList_delete_own _ rfl _ _ 113 9 rfl 3 lawS Tryz.underlying113 _ bu _ _ rfl (by exact HOWN4.out) _ (.string q) rfl (by exact HKQ.out) ?_;intro w5 hown5 hturn5;have HOWN5:=Lib.hid hown5;have HT5:=Lib.hid hturn5;clear hown5 hturn5))
    have hj0:j=0:=by have:=beq_iff_eq.1 HZ.out;omega
    refine ⟨⟨_,_,⟨k+1,by omega,rfl,?_⟩,rfl,(wrap_ok (by omega) (by omega)).symm,by simp⟩,by simp [intOf];omega⟩
    exact DirsU.none_ (F:=F) (c':=fun x=>cntM (withoutM R p) x+((parentsL p).drop (k+1)).count x) HDU.out HE2.out (by show cntM (withoutM R p) q+_=0;rw [HJ.out,hj0]) HG4.out HOWN5.out HT5.out HC.out
   | false =>
    go_wp2_with (first
     | (at_lookup;have _t:=tok2;refine wpList_lookup_own_int _ rfl _ _ 113 rfl 9 3 .i64 lawS Tryz.underlying113 Tryz.underlying3 (zeroI _) bu _ E rfl (by exact HE1.out) _ _ rfl (by exact HKQ.out) ?_;intro c hat hwc;obtain rfl:c=(j:Int)+1:=(by have h:=hat.symm.trans HAT.out;injection h with h;injection h with h);clear hat hwc tok2)
     | (at_mapUpdate;refine wpList_mapUpdate_own _ rfl _ _ _ 113 rfl 9 3 lawS Tryz.underlying113 _ bu _ E rfl (by exact HE1.out) (by exact HESZ.out) _ _ (.string q) rfl rfl (by exact HKQ.out) (.lit (.int .i64 (j:Int))) [] (by first | exact plainElem_int Tryz.underlying3 (WalkArith.wf_i64 (by omega)) | (rw [show ((j:Int)+1 - 1)=(j:Int) from by omega];exact plainElem_int Tryz.underlying3 (WalkArith.wf_i64 (by omega)))) ?_;intro w4 hown4 hgrow4;have HOWN4:=Lib.hid hown4;have HG4:=Lib.hid hgrow4;have c1w:w4.cell? ⟨t,1,none⟩=some (.map (some bu)):=(HBLKR.out.grown hgrow4 (fun e=>HX.out.u_ne (by injection e with e;exact e.symm))).cell 1;have tok4:True:=trivial;clear hown4 hgrow4)
     | (at_lookup;have _t:=tok4;refine wpList_lookup_own_int _ rfl _ _ 113 rfl 9 3 .i64 lawS Tryz.underlying113 Tryz.underlying3 (zeroI _) bu _ _ rfl (by exact HOWN4.out) _ _ rfl (by exact HKQ.out) ?_;intro c hat hwc;obtain rfl:c=(j:Int):=(by have h:=hat.symm.trans (Maps.atKey_put_same HIM.out (isK q) _ _);injection h with h;injection h with h);clear hat hwc tok4)
     | (at_delete;refine wpList_delete_own _ rfl _ _ 113 9 rfl 3 lawS Tryz.underlying113 _ bu _ _ rfl (by exact HOWN4.out) _ (.string q) rfl (by exact HKQ.out) ?_;intro w5 hown5 hturn5;have HOWN5:=Lib.hid hown5;have HT5:=Lib.hid hturn5;clear hown5 hturn5))
    have hj0:0<j:=by have:=beq_eq_false_iff_ne.1 HZ.out;omega
    refine ⟨⟨_,_,⟨k+1,by omega,rfl,?_⟩,rfl,(wrap_ok (by omega) (by omega)).symm,by simp⟩,by simp [intOf];omega⟩
    exact DirsU.less (F:=F) (c':=fun x=>cntM (withoutM R p) x+((parentsL p).drop (k+1)).count x) HDU.out HE2.out HIM.out HJ.out hj0 HOWN4.out HG4.out HC.out
  ·obtain rfl:k=m:=by omega
   have hfin:DirsU F w3 wr bu (cntM (withoutM R p)):=by
    have:=HDU.out
    rw [List.drop_of_length_le (Nat.le_of_eq HMM.out)] at this
    exact this
   have HFIN:=Lib.hid hfin
   clear hfin hdu
   go_wp2_with fail
   go_end0
   have:=TreeX.take (r:=r) (n:=Maps.size D) HX.out hF HRR.out HFO.out (by rw [HPE.out];exact HOWN1.out) HO1.out HO3.out (by rw [HU.out,HL.out];exact HBLK3.out) (by rw [HPE.out];exact HFIN.out)
   rw [HPE.out] at this
   exact ⟨rfl,this⟩
end Go.Proofs.YtlkolcokjmlmjaaGreat.Tx
namespace Go.Proofs.YtlkolcokjmlmjaaGreat.Tx
open Go.RowKit Go.Maps Go.Proofs.YtlkolcokjmlmjaaGreat.Sh
structure ChM where
 gone:List UInt8
 path:List UInt8
 f:FileM
def goneM (R:List RowM) (p:List UInt8):List RowM:=if p=[] then R else withoutM R p
def applyC (R:List RowM) (c:ChM):List RowM:=if c.path=[] then goneM R c.gone else withM (goneM R c.gone) c.path c.f
def chV (c:ChM) (d:Value):Value:=.agg #[.string (str c.gone),.string (str c.path),.int .i64 c.f.mode,d,.int .i64 c.f.time]
theorem with_without (R:List RowM) (p:List UInt8) (f:FileM):withM (withoutM R p) p f=withM R p f:=by
 have:withoutM (withoutM R p) p=withoutM R p:=by unfold withoutM;rw [List.filter_filter];simp
 unfold withM
 rw [this]
theorem gone_len (R:List RowM) (p:List UInt8):(goneM R p).length≤R.length:=by
 unfold goneM
 split
 ·exact Nat.le_refl _
 ·exact List.length_filter_le _ _
theorem gone_used (R:List RowM) (p:List UInt8):usedM (goneM R p)≤usedM R:=by
 unfold goneM
 split
 ·exact Nat.le_refl _
 ·exact used_without_le p R
theorem ttake_any (F : Nat → Prop) (t bf bu : Nat) (R : List RowM) (p : List UInt8) (w : World) (h : TreeX F w t R bf bu) (hF : ∀ k, F k → ¬ treeM t bf bu k) (hp : p.length ≤ 1000000) (hR : R.length ≤ 1000000) (hu : usedM R ≤ 4000000000000) :
  Calls Tryz.prog 154 #[.pointer (some ⟨t,0,none⟩),.string (str p)] w fun e w'=>e=.returned (.tuple #[])∧TreeX F w' t (withoutM R p) bf bu∧Only (treeM t bf bu) w w':=by
 cases hs:standsM R p with
 | false =>
  refine (ttake_no F t bf bu R p w h hs hp).mono ?_
  rintro e w' ⟨rfl,hb⟩
  rw [without_none (stands_no.1 hs)]
  exact ⟨rfl,h.below hb,Only.of_below hb⟩
 | true =>
  obtain ⟨r,hr,rfl⟩:=stands_iff.1 hs
  exact ttake_yes F t bf bu R r w h hr hF hp hR hu
theorem str_nil {p:List UInt8} (h:p=[]):(str p).toList=[]∧(str p).toList.isEmpty=true:=by rw [str_toList];subst h;exact ⟨rfl,rfl⟩
theorem str_some {p:List UInt8} (h:p≠[]):¬ ((str p).toList=[])∧(str p).toList.isEmpty=false:=by
 rw [str_toList]
 exact ⟨h,by cases p with | nil=>exact absurd rfl h | cons=>rfl⟩
set_option maxRecDepth 100000 in
set_option maxHeartbeats 3200000 in
theorem tapply_any (F : Nat → Prop) (t bf bu : Nat) (R : List RowM) (c : ChM) (d : Value) (w : World) (h : TreeX F w t R bf bu) (hF : ∀ k, F k → ¬ treeM t bf bu k) (hd : By F w d c.f.data) (hg : c.gone.length ≤ 1000000) (hp : c.path.length ≤ 1000000) (hR : R.length ≤ 1000000) (hu : usedM R ≤ 4000000000000) (hdl : c.f.data.length ≤ 1000000) :
  Calls Tryz.prog 132 #[.pointer (some ⟨t,0,none⟩),chV c d] w fun e w'=>e=.returned (.tuple #[])∧TreeX F w' t (applyC R c) bf bu∧Only (treeM t bf bu) w w':=by
 obtain ⟨dA,dc,rfl,_,_⟩:=hd.slice
 obtain ⟨g,p,f⟩:=c
 unfold chV
 simp only at hg hp hdl hd ⊢
 obtain ⟨wb,hwb⟩:∃ wb,wb=w.alloc (.cells #[.string (str g),.string (str p),.int .i64 f.mode,.slice dA f.data.length dc,.int .i64 f.time] 133):=⟨_,rfl⟩
 have hB:Below w.heap.size w wb:=by rw [hwb];exact (Below.refl _ _).alloc (Nat.le_refl _) _
 have hbox:Blk wb w.heap.size 133 #[.string (str g),.string (str p),.int .i64 f.mode,.slice dA f.data.length dc,.int .i64 f.time]:=by rw [hwb];exact Blk.new _ _ _
 have hX:=h.below hB
 have hd1:=hd.only (Only.of_below (M:=fun _=>False) hB) (fun _ _=>id)
 have c0:wb.cell? ⟨w.heap.size,0,none⟩=some (.string (str g)):=hbox.cell 0
 have c1:wb.cell? ⟨w.heap.size,1,none⟩=some (.string (str p)):=hbox.cell 1
 have HX:=Lib.hid hX
 have HD:=Lib.hid hd1
 have HBOX:=Lib.hid hbox
 have HNB:Hid (¬ treeM t bf bu w.heap.size):=fun hk=>by have:=h.lt _ hk;omega
 have HO:Hid (Only (treeM t bf bu) w wb):=Only.of_below hB
 have HR:=Lib.hid hR
 have HU:=Lib.hid hu
 have HDL:=Lib.hid hdl
 have HFIN:Hid (applyC R ⟨g,p,f⟩=if p=[] then goneM R g else withM (goneM R g) p f):=rfl
 clear hX hd1 hbox hB h hd hR hu hdl
 go_enter Tryz.func132,Tryz.ntmps132
 go_upto_region 1 with (fail)
 rw [← hwb]
 clear hwb
 obtain ⟨gz,hgz⟩:∃ gz,(!decide (g=[]))=gz:=⟨_,rfl⟩
 go_cut [6] (fun c wx=>c=.bool gz∧wb=wx)
 case first =>
  by_cases hg0:g=[]
  ·obtain ⟨z2,z3⟩:=str_nil hg0
   have HG0:Hid (gz=false):=by unfold Hid;rw [← hgz,decide_eq_true hg0];rfl
   clear hg0 hgz
   go_wp2_with fail
   go_meet
   exact ⟨by rw [HG0.out],rfl⟩
  ·obtain ⟨z2,z3⟩:=str_some hg0
   have HG0:Hid (gz=true):=by unfold Hid;rw [← hgz,decide_eq_false hg0];rfl
   clear hg0 hgz
   go_wp2_with fail
   go_meet
   exact ⟨by rw [HG0.out],rfl⟩
 case rest =>
 obtain ⟨rfl,rfl⟩:=hcut
 have HGZ:=Lib.hid hgz
 clear hgz
 go_upto_if 6 with (fail)
 go_cut [] (fun wx=>TreeX F wx t (goneM R g) bf bu∧Only (treeM t bf bu) w wx∧Only (treeM t bf bu) wb wx)
 case first =>
  cases gz with
  | false =>
   have HG0:Hid (g=[]):=by have h:=HGZ.out;unfold Hid;simpa using h
   go_wp2_with fail
   go_meet
   refine ⟨?_,HO.out,Only.refl _ _⟩
   unfold goneM
   rw [if_pos HG0.out]
   exact HX.out
  | true =>
   have hg0:g≠[]:=by have h:=HGZ.out;simpa using h
   have HG0:=Lib.hid hg0
   clear hg0
   go_wp2_with fail
   refine (ttake_any F t bf bu R g wb HX.out hF hg HR.out HU.out).mono ?_
   rintro e w1 ⟨rfl,hX1,ho1⟩
   have HX1:=Lib.hid hX1
   have HO1:=Lib.hid ho1
   clear hX1 ho1
   go_wp2_with fail
   go_meet
   refine ⟨?_,HO.out.trans HO1.out (fun _ hk=>.inl hk),HO1.out⟩
   unfold goneM
   rw [if_neg HG0.out]
   exact HX1.out
 case rest =>
  obtain ⟨hX1,ho1,ho2⟩:=hcut
  have hbox1:=ho2.blk HBOX.out HNB.out
  have d1:wc.cell? ⟨w.heap.size,1,none⟩=some (.string (str p)):=hbox1.cell 1
  have HX1:=Lib.hid hX1
  have HO1:=Lib.hid ho1
  have HBOX1:=Lib.hid hbox1
  have HD1:=Lib.hid (HD.out.only ho2 hF)
  have hR1:(goneM R g).length≤1000000:=Nat.le_trans (gone_len R g) HR.out
  have hu1:usedM (goneM R g)≤4000000000000:=Nat.le_trans (gone_used R g) HU.out
  have HR1:=Lib.hid hR1
  have HU1:=Lib.hid hu1
  clear hX1 ho1 ho2 hbox1 c0 c1 hR1 hu1
  by_cases hp0:p=[]
  ·obtain ⟨z2,z3⟩:=str_nil hp0
   have HP0:=Lib.hid hp0
   clear hp0
   go_wp2_with fail
   go_end0
   rw [HFIN.out,if_pos HP0.out]
   exact ⟨rfl,HX1.out,HO1.out⟩
  ·obtain ⟨z2,z3⟩:=str_some hp0
   have HP0:=Lib.hid hp0
   clear hp0
   go_wp2_with fail
   refine (ttake_any F t bf bu (goneM R g) p wc HX1.out hF hp HR1.out HU1.out).mono ?_
   rintro e w2 ⟨rfl,hX2,ho2⟩
   have hbox2:=ho2.blk HBOX1.out HNB.out
   have d1:w2.cell? ⟨w.heap.size,1,none⟩=some (.string (str p)):=hbox2.cell 1
   have d2:w2.cell? ⟨w.heap.size,2,none⟩=some (.int .i64 f.mode):=hbox2.cell 2
   have d3:w2.cell? ⟨w.heap.size,3,none⟩=some (.slice dA f.data.length dc):=hbox2.cell 3
   have d4:w2.cell? ⟨w.heap.size,4,none⟩=some (.int .i64 f.time):=hbox2.cell 4
   have HX2:=Lib.hid hX2
   have HO2:=Lib.hid (HO1.out.trans ho2 (fun _ hk=>.inl hk))
   have HD2:=Lib.hid (HD1.out.only ho2 hF)
   have hR2:(withoutM (goneM R g) p).length≤1000000:=Nat.le_trans (List.length_filter_le _ _) HR1.out
   have hu2:usedM (withoutM (goneM R g) p)≤4000000000000:=Nat.le_trans (used_without_le p _) HU1.out
   have HR2:=Lib.hid hR2
   have HU2:=Lib.hid hu2
   clear hX2 ho2 hbox2 hR2 hu2
   go_wp2_with fail
   refine (tput_any F t bf bu (withoutM (goneM R g) p) p f (.slice dA f.data.length dc) w2 HX2.out HD2.out hF (by rw [stands_without];simp) hp HR2.out HU2.out HDL.out).mono ?_
   rintro e w3 ⟨rfl,hX3,ho3⟩
   have HX3:=Lib.hid hX3
   have HO3:=Lib.hid (HO2.out.trans ho3 (fun _ hk=>.inl hk))
   clear hX3 ho3
   go_wp2_with fail
   go_end0
   rw [HFIN.out,if_neg HP0.out,← with_without]
   exact ⟨rfl,HX3.out,HO3.out⟩
end Go.Proofs.YtlkolcokjmlmjaaGreat.Tx
namespace Go.Proofs.YtlkolcokjmlmjaaGreat.Tx
open Go.RowKit Go.Maps Go.Proofs.YtlkolcokjmlmjaaGreat.Sh
def blockedC (R:List RowM) (l:List (List UInt8)) (wo:List UInt8):Bool:=l.any fun d=>standsM R d&&!(d==wo)
def mayC (R:List RowM) (p wo:List UInt8):Bool:=!blockedC R (parentsL p) wo&&decide ((cntM R p:Int) - (if underB p wo=true then 1 else 0)=0)
theorem blocked_take {R:List RowM} {l:List (List UInt8)} {wo q:List UInt8} {k:Nat} (hq:l[k]?=some q):blockedC R (l.take (k+1)) wo=(blockedC R (l.take k) wo||(standsM R q&&!(q==wo))):=by
 unfold blockedC
 rw [List.take_add_one,hq,List.any_append]
 simp
theorem blocked_hit {R:List RowM} {l:List (List UInt8)} {wo q:List UInt8} {k:Nat} (hq:l[k]?=some q) (h:(standsM R q&&!(q==wo))=true):blockedC R l wo=true:=List.any_eq_true.2 ⟨q,List.mem_of_getElem? hq,h⟩
theorem int_beq (x y:Int):(x==y)=decide (x=y):=by by_cases h:x=y <;> simp [h]
theorem look_any {F:Nat→Prop} {w:World} {R:List RowM} {D:DataW Value} (h:FilesOK F w R D) (p:List UInt8):∃ (zm:Int) (zA:Option Addr) (zn zc:Nat) (zt:Int),∀ v ps,hv v=some (D.atKey (.string p) (.held zeroFile),ps)→v=.agg #[.int .i64 zm,.slice zA zn zc,.int .i64 zt]:=by
 cases hs:standsM R p with
 | false=>exact ⟨0,none,0,0,0,fun v ps h'=>look_miss h hs v ps h'⟩
 | true =>
  obtain ⟨r,hr,rfl⟩:=stands_iff.1 hs
  obtain ⟨d,hd,hh⟩:=look_hit h hr
  obtain ⟨A,c,rfl,_,_⟩:=hd.slice
  exact ⟨_,A,_,c,_,hh⟩
set_option maxRecDepth 100000 in
set_option maxHeartbeats 6400000 in
theorem tmay_any (F : Nat → Prop) (t bf bu : Nat) (R : List RowM) (p wo : List UInt8) (w : World) (h : TreeX F w t R bf bu) (hp : p.length ≤ 1000000) (hwo : wo.length ≤ 1000000) (hR : R.length ≤ 1000000) :
  Calls Tryz.prog 127 #[.pointer (some ⟨t,0,none⟩),.string (str p),.string (str wo)] w fun e w'=>e=.returned (.bool (mayC R p wo))∧Below w.heap.size w w':=by
 have HX:=Lib.hid h
 have HR:=Lib.hid hR
 have htl:t<w.heap.size:=h.lt t (.inl rfl)
 have HTL:=Lib.hid htl
 clear h hR htl
 go_enter Tryz.func127,Tryz.ntmps127
 go_wp2_with fail
 refine (nparents_any p _ hp).mono ?_
 rintro e w3 ⟨v,rfl,ho3,hb3⟩
 have HB3:=Lib.hid hb3
 obtain ⟨pA,pc,rfl,pl1,pl2⟩:=ho3.length
 simp only [List.length_map] at pl1 ⊢
 have HP:=Lib.hid ho3
 obtain ⟨m,hm⟩:∃ m,(parentsL p).length=m:=⟨_,rfl⟩
 have hm7:m≤7:=by rw [← hm];exact parents_few p
 rw [hm] at pl1 ⊢
 have HMM:=Lib.hid hm
 have HX3:=Lib.hid (HX.out.below hb3)
 clear ho3 hb3 hm
 go_wp2_with fail
 go_loopw [15] (fun i wr=>∃ k:Nat,k≤m∧i=.int .i64 k∧blockedC R ((parentsL p).take k) wo=false∧Below w3.heap.size w3 wr) (fun i _=>m - (intOf i).toNat)
 case atStart=>exact ⟨0,by omega,rfl,rfl,Below.refl _ _⟩
 case round =>
  obtain ⟨k,hk,rfl,hbk,hbe⟩:=hrel
  have k0:(0:Int)≤(k:Int):=by omega
  have hXr:=HX3.out.below hbe
  have HXR:=Lib.hid hXr
  have HBE:=Lib.hid hbe
  have HBK:=Lib.hid hbk
  by_cases hlt:k<m
  ·have k1:(k:Int)<(m:Int):=by omega
   have k2:(k:Int)≤(m:Int):=by omega
   have hkm:k<(parentsL p).length:=by rw [HMM.out];exact hlt
   obtain ⟨q,hq⟩:∃ q,(parentsL p)[k]=q:=⟨_,rfl⟩
   have hqk:(parentsL p)[k]?=some q:=by rw [List.getElem?_eq_getElem hkm,hq]
   have hql:q.length≤1000000:=by
    have:=parents_path (List.mem_of_getElem? hqk)
    have:=((pathB_iff q).1 this).1
    omega
   have hov:=HP.out.below hbe
   obtain ⟨A',c',he,_,_,hrd⟩:=hov.slv.len
   injection he with he1 he2 he3
   subst he1
   simp only [List.length_map] at hrd
   have hkm':k<((parentsL p).map str).length:=by rw [List.length_map];exact hkm
   have hta:=texts_at (xs:=(parentsL p).map str) (by simpa using hrd) k hkm'
   obtain ⟨ad,rfl,hcell⟩:=hta
   have hcell2:wr.cell? (ad.add k)=some (.string (str q)):=by rw [hcell];simp [hq]
   have c0r:wr.cell? ⟨t,0,none⟩=some (.map (some bf)):=hXr.blk.cell 0
   obtain ⟨D,hown,hfo⟩:=hXr.files
   obtain ⟨sq,hsq⟩:∃ sq,standsM R q=sq:=⟨_,rfl⟩
   have hhas:Maps.has D (.string q)=sq:=by rw [hfo.has_,hsq]
   obtain ⟨zm,zA,zn,zc,zt,hz⟩:=look_any hfo q
   have HOWN:=Lib.hid hown
   have HZ:=Lib.hid hz
   have HKQ:=Lib.hid (key_str q hql)
   have HQK:=Lib.hid hqk
   have HSQ:=Lib.hid hsq
   obtain ⟨qe,hqe⟩:∃ qe,decide (q=wo)=qe:=⟨_,rfl⟩
   have HQE:=Lib.hid hqe
   clear hov hrd hkm' hcell hown hfo hz hq hqk hql hkm hbk hbe hsq hqe hXr
   go_upto_region 5 with (first | fail | (at_lookup;refine wpList_lookup_own_ok _ rfl _ _ 112 rfl 9 91 lawS Tryz.underlying112 hv (zeroF _) (.held zeroFile) [] rfl bf _ D rfl (by exact HOWN.out) _ (.string q) rfl (by exact HKQ.out) ?_;intro v ps hv';obtain rfl:=HZ.out v ps hv';rw [hhas];clear hv'))
   cases sq with
   | false =>
    have HN:Hid (blockedC R ((parentsL p).take (k+1)) wo=false):=by unfold Hid;rw [blocked_take HQK.out,HBK.out,HSQ.out];rfl
    go_wp2_with fail
    refine ⟨⟨_,_,_,_,_,⟨k+1,by omega,rfl,HN.out,HBE.out.alloc (by have:=HBE.out.size;omega) _⟩,rfl,rfl,rfl,rfl,by simp⟩,by simp [intOf];omega⟩
   | true =>
    cases qe with
    | true =>
     have hqw:q=wo:=of_decide_eq_true HQE.out
     have HN:Hid (blockedC R ((parentsL p).take (k+1)) wo=false):=by unfold Hid;rw [blocked_take HQK.out,HBK.out,hqw];simp
     have e1:=str_eq' hqw
     clear hqw
     go_wp2_with fail
     refine ⟨⟨_,_,_,_,_,⟨k+1,by omega,rfl,HN.out,HBE.out.alloc (by have:=HBE.out.size;omega) _⟩,rfl,rfl,rfl,rfl,by simp⟩,by simp [intOf];omega⟩
    | false =>
     have hqw:q≠wo:=of_decide_eq_false HQE.out
     have HN:Hid (mayC R p wo=false):=by
      unfold Hid mayC
      rw [blocked_hit HQK.out (by rw [HSQ.out];simpa using hqw)]
      rfl
     have e1:=str_ne hqw
     clear hqw
     go_wp2_with fail
     go_ret
     exact ⟨by rw [HN.out];rfl,(HB3.out.trans (HBE.out.mono HB3.out.size)).alloc (by have:=HB3.out.size;have:=HBE.out.size;omega) _⟩
  ·obtain rfl:k=m:=by omega
   have hbk':blockedC R (parentsL p) wo=false:=by
    have:=HBK.out
    rw [List.take_of_length_le (Nat.le_of_eq HMM.out)] at this
    exact this
   obtain ⟨E,hE1,hE2⟩:=hXr.under
   have c1r:wr.cell? ⟨t,1,none⟩=some (.map (some bu)):=hXr.blk.cell 1
   obtain ⟨cc,hcc⟩:∃ cc,cntM R p=cc:=⟨_,rfl⟩
   have hat0:E.atKey (.string p) (.lit (.int .i64 0))=.lit (.int .i64 cc):=by rw [← hcc];exact (hE2 p).2
   have hccb:cc≤8000000:=by have:=cnt_le R p;have:=HR.out;omega
   have HE1:=Lib.hid hE1
   have HAT:=Lib.hid hat0
   have HKP:=Lib.hid (key_str p hp)
   obtain ⟨ub,hub⟩:∃ ub,underB p wo=ub:=⟨_,rfl⟩
   have HUB:=Lib.hid hub
   have HMAY:Hid (mayC R p wo=decide ((cc:Int) - (if ub=true then 1 else 0)=0)):=by unfold Hid mayC;rw [hbk',hub,hcc];rfl
   have hc0:(0:Int)≤(cc:Int):=by omega
   have hc1:(cc:Int)≤8000000:=by omega
   have HSZ:=Lib.hid HB3.out.size
   clear hbk hbe hbk' hE1 hE2 hcc hat0 hccb hub hXr
   go_wp2_with (at_lookup;refine wpList_lookup_own_int _ rfl _ _ 113 rfl 9 3 .i64 lawS Tryz.underlying113 Tryz.underlying3 (zeroI _) bu _ E rfl (by exact HE1.out) _ _ rfl (by exact HKP.out) ?_;intro c hat hwc;obtain rfl:c=(cc:Int):=(by have h:=hat.symm.trans HAT.out;injection h with h;injection h with h);clear hat hwc)
   refine (nunder_any p wo _ hp hwo).mono ?_
   rintro e w4 ⟨rfl,hb4⟩
   rw [HUB.out]
   have HB4:=Lib.hid ((HB3.out.trans (HBE.out.mono HB3.out.size)).trans (hb4.mono (Nat.le_trans HB3.out.size HBE.out.size)))
   clear hb4
   cases ub with
   | false =>
    obtain ⟨z,hz⟩:∃ z,((cc:Int)==0)=z:=⟨_,rfl⟩
    have HFIN:Hid (mayC R p wo=z):=by unfold Hid;rw [HMAY.out,← hz,int_beq];simp only [Bool.false_eq_true,if_false,Int.sub_zero]
    go_wp2_with fail
    go_ret
    exact ⟨by rw [HFIN.out];rfl,HB4.out⟩
   | true =>
    obtain ⟨z,hz⟩:∃ z,((cc:Int) - 1==0)=z:=⟨_,rfl⟩
    have HFIN:Hid (mayC R p wo=z):=by unfold Hid;rw [HMAY.out,← hz,int_beq];simp only [if_true]
    go_wp2_with fail
    go_ret
    exact ⟨by rw [HFIN.out];rfl,HB4.out⟩
set_option maxRecDepth 100000 in
theorem mapcl_f {H : Type} (w : World) (b n : Nat) (R : Value → Option (DataW H × List MemPlace)) (D : DataW H) (hown : w.ownsMap Tryz.prog 9 R b n D) :
  Calls Tryz.prog 138 #[.map (some b)] w fun e w'=>e=.returned (.map (some w.heap.size))∧w'.ownsMap Tryz.prog 9 R w.heap.size n D∧Below w.heap.size w w'∧w.heap.size<w'.heap.size:=by
 obtain ⟨es,clock,hb,F,hs,hD⟩:=hown
 have hq:=fun w=>run_eql_map_nil_sl (P:=Tryz.prog) w 112 _ _ (some b) Tryz.underlying112
 have HF:=Lib.hid F
 have HS:=Lib.hid hs
 have HD:=Lib.hid hD
 clear F hs hD
 go_enter Tryz.func138,Tryz.ntmps138
 go_wp2
 rw [run_callFunc_extern Tryz.func161 (by kernel_rfl) (by kernel_rfl) (by kernel_rfl) (e:=Extern.MapsClone.clone) (by kernel_rfl),run_maps_clone_sl w 112 hb]
 simp only [Result.andThen]
 rw [Oper.upon_value]
 go_wp2
 rw [run_typeAssert_map_sl _ 112 20 _ _ _ Tryz.underlying112]
 simp only [Result.andThen]
 rw [Oper.upon_value]
 go_wp2
 go_ret
 exact ⟨rfl,⟨es,clock,(MapKept.heap_alloc w _).1,HF.out,HS.out,HD.out⟩,(Below.refl _ w).alloc (Nat.le_refl _) _,by simp⟩
set_option maxRecDepth 100000 in
theorem mapcl_u {H : Type} (w : World) (b n : Nat) (R : Value → Option (DataW H × List MemPlace)) (D : DataW H) (hown : w.ownsMap Tryz.prog 9 R b n D) :
  Calls Tryz.prog 139 #[.map (some b)] w fun e w'=>e=.returned (.map (some w.heap.size))∧w'.ownsMap Tryz.prog 9 R w.heap.size n D∧Below w.heap.size w w'∧w.heap.size<w'.heap.size:=by
 obtain ⟨es,clock,hb,F,hs,hD⟩:=hown
 have hq:=fun w=>run_eql_map_nil_sl (P:=Tryz.prog) w 113 _ _ (some b) Tryz.underlying113
 have HF:=Lib.hid F
 have HS:=Lib.hid hs
 have HD:=Lib.hid hD
 clear F hs hD
 go_enter Tryz.func139,Tryz.ntmps139
 go_wp2
 rw [run_callFunc_extern Tryz.func161 (by kernel_rfl) (by kernel_rfl) (by kernel_rfl) (e:=Extern.MapsClone.clone) (by kernel_rfl),run_maps_clone_sl w 113 hb]
 simp only [Result.andThen]
 rw [Oper.upon_value]
 go_wp2
 rw [run_typeAssert_map_sl _ 113 20 _ _ _ Tryz.underlying113]
 simp only [Result.andThen]
 rw [Oper.upon_value]
 go_wp2
 go_ret
 exact ⟨rfl,⟨es,clock,(MapKept.heap_alloc w _).1,HF.out,HS.out,HD.out⟩,(Below.refl _ w).alloc (Nat.le_refl _) _,by simp⟩
def NewTree (F:Nat→Prop) (w w':World) (t':Nat) (R:List RowM):Prop:=Below w.heap.size w w'∧∃ bf' bu',TreeX F w' t' R bf' bu'∧∀ k,treeM t' bf' bu' k→w.heap.size≤k
set_option maxRecDepth 100000 in
set_option maxHeartbeats 1600000 in
theorem tclone_any (F : Nat → Prop) (t bf bu : Nat) (R : List RowM) (w : World) (h : TreeX F w t R bf bu) :
  Calls Tryz.prog 108 #[.pointer (some ⟨t,0,none⟩)] w fun e w'=>∃ t',e=.returned (.pointer (some ⟨t',0,none⟩))∧NewTree F w w' t' R:=by
 have HX:=Lib.hid h
 obtain ⟨D,hown,hfo⟩:=h.files
 obtain ⟨E,hownu,huo⟩:=h.under
 have HOWN:=Lib.hid hown
 have HOWNU:=Lib.hid hownu
 have HFO:=Lib.hid hfo
 have HUO:=Lib.hid huo
 obtain ⟨u,hu⟩:∃ u,(usedM R:Int)=u:=⟨_,rfl⟩
 have hblk:=h.blk
 rw [hu] at hblk
 have HBLK:=Lib.hid hblk
 have HU:=Lib.hid hu
 clear h hown hownu hfo huo hu
 have HS:Hid (∀ W,Below w.heap.size w W→W.cell? ⟨t,0,none⟩=some (.map (some bf))∧W.cell? ⟨t,1,none⟩=some (.map (some bu))∧W.cell? ⟨t,2,none⟩=some (.int .i64 u)):=fun W hW=>by
  have b1:=HBLK.out.below hW HBLK.out.lt
  exact ⟨b1.cell 0,b1.cell 1,b1.cell 2⟩
 obtain ⟨p0,p1,p2⟩:=HS.out w (Below.refl _ _)
 clear hblk
 go_enter Tryz.func108,Tryz.ntmps108
 go_upto_region 1 with (fail)
 go_region_held3 (fun W=>W.cell? ⟨t,0,none⟩=some (.map (some bf))∧W.cell? ⟨t,1,none⟩=some (.map (some bu))∧W.cell? ⟨t,2,none⟩=some (.int .i64 u)) (first | exact HS.out _ (HB2.out.alloc HB2.out.size _) | exact HS.out _ HB2.out | exact HS.out _ HB1.out | exact ⟨p0,p1,p2⟩) (first
  | (go_at_call 139;refine (mapcl_u _ bu _ _ E (by exact HU1.out)).mono ?_;rintro e w2 ⟨rfl,ho2,hb2,hz2⟩;have HO2:=Lib.hid ho2;have HB12:=Lib.hid hb2;have HB2:=Lib.hid (HB1.out.trans (hb2.mono HB1.out.size));have HZ2:=Lib.hid hz2;clear ho2 hb2 hz2)
  | (go_at_call 138;refine (mapcl_f w.drew bf _ hv D (by exact HOWN.out.drew)).mono ?_;rintro e w1 ⟨rfl,ho1,hb1,hz1⟩;have HO1:=Lib.hid ho1;have hb1':Below w.heap.size w w1:=⟨hb1.os,hb1.tape,hb1.output,hb1.size,hb1.block⟩;have HB1:=Lib.hid hb1';have HZ1:Hid (w.heap.size<w1.heap.size):=hz1;have HU1:=Lib.hid (own_only HOWNU.out (Only.of_below (M:=fun _=>False) hb1') id);clear ho1 hb1 hb1' hz1))
 go_wp2_with fail
 go_ret
 have hzw:=HB1.out.size
 have hz1:=HZ1.out
 have hz2:=HZ2.out
 have hB:Below w.heap.size w (w2.alloc (.cells #[.map (some w.heap.size),.map (some w1.heap.size),.int .i64 u] 115)):=HB2.out.alloc HB2.out.size _
 have hO:Only (fun _=>False) w (w2.alloc (.cells #[.map (some w.heap.size),.map (some w1.heap.size),.int .i64 u] 115)):=Only.of_below hB
 refine ⟨w2.heap.size,rfl,hB,w.heap.size,w1.heap.size,⟨?_,⟨D,?_,HFO.out.only hO (fun _ _=>id)⟩,⟨E,HO2.out.alloc _,HUO.out⟩,by omega,HX.out.ord⟩,?_⟩
 ·rw [HU.out]
  exact Blk.new _ _ _
 ·exact (own_only HO1.out (Only.of_below (M:=fun _=>False) HB12.out) id).alloc _
 ·rintro k (rfl | rfl | rfl)
  ·have:=HB2.out.size;omega
  ·exact Nat.le_refl _
  ·omega
end Go.Proofs.YtlkolcokjmlmjaaGreat.Tx
