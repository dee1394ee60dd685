/- Texts put together: VRg6. -/
import Derived.Test.YtlkolcokjmlmjaaGreatQv49
import Derived.Test.YtlkolcokjmlmjaaGreatQv53
set_option linter.unusedVariables false
set_option linter.unusedSimpArgs false
namespace Go.Proofs.YtlkolcokjmlmjaaGreat.Tx
open Go.RowKit Go.Maps Go.Proofs.YtlkolcokjmlmjaaGreat.Sh
set_option maxRecDepth 100000 in
set_option maxHeartbeats 12800000 in
theorem refsplay_any (G:Nat→Prop) (room:Int) (v:Value) (l:List ROp) (w:World) (h:OpsR G w v l) (hG:∀ k,G k→k<w.heap.size) (hdl:∀ o∈l,o.f.data.length≤140737488351232∧∀ e∈o.f.plan,e.data.length≤140737488351232):Calls Tryz.prog 3 #[.int .i64 room,v] w (Yes w):=by
 have HL:=Lib.hid h
 have HG:=Lib.hid hG
 have HDL:=Lib.hid hdl
 obtain ⟨A,c,rfl,hlc,hcm,_⟩:=h
 obtain ⟨n,hn⟩:∃ n,l.length=n:=⟨_,rfl⟩
 have HN:=Lib.hid hn
 rw [hn] at hlc HL ⊢
 unfold maxLen at hcm
 clear hn hG hdl
 go_enter Tryz.func3,Tryz.ntmps3
 go_wp2_with fail
 refine (rfirst_any w).mono ?_
 rintro e w0 ⟨rfl,hb0⟩
 have HB0:=Lib.hid hb0
 clear hb0
 go_wp2_with fail
 refine (rfew_any G _ l w0 (by have:=HL.out.below HB0.out;exact this) (fun k hk=>Nat.lt_of_lt_of_le (HG.out k hk) HB0.out.size)).mono ?_
 rintro e w1 ⟨t,rfl,ht,hb1⟩
 have HB1:=Lib.hid (HB0.out.trans (hb1.mono HB0.out.size))
 have HF:=Lib.hid ht
 clear hb1 ht
 cases t with
 | false =>
  go_wp2_with fail
  refine (rfirst_any w1).mono ?_
  rintro e w2 ⟨rfl,hb2⟩
  have HB2:=Lib.hid (HB1.out.trans (hb2.mono HB1.out.size))
  clear hb2
  go_wp2_with fail
  go_ret
  exact ⟨rfl,HB2.out⟩
 | true =>
 have HFW:Hid (l.length≤60∧(∀ o∈l,RFew o)∧∀ o∈l,OpFew o.f):=HF.out rfl
 clear HF
 have hn60:n≤60:=by have:=HFW.out.1;rw [HN.out] at this;exact this
 go_wp2_with fail
 refine (new_any G room w1 (fun k hk=>Nat.lt_of_lt_of_le (HG.out k hk) HB1.out.size)).mono ?_
 rintro e w2 ⟨hb2,hcase⟩
 have HB2:=Lib.hid (HB1.out.trans (hb2.mono HB1.out.size))
 have HB2':=Lib.hid hb2
 clear hb2
 rcases hcase with ⟨hnb,rfl⟩ | ⟨hnb,b,M,hbz,hM,rfl,hat⟩
 ·have HNB:=Lib.hid hnb
  clear hnb
  go_wp2_with fail
  refine (rnew_any G room w2 (fun k hk=>Nat.lt_of_lt_of_le (HG.out k hk) HB2.out.size)).mono ?_
  rintro e w3 ⟨hb3,hcase⟩
  have HB3:=Lib.hid (HB2.out.trans (hb3.mono HB2.out.size))
  clear hb3
  rcases hcase with ⟨_,rfl⟩ | ⟨hy,_⟩
  ·go_wp2_with fail
   refine (rfirst_any w3).mono ?_
   rintro e w4 ⟨rfl,hb4⟩
   have HB4:=Lib.hid (HB3.out.trans (hb4.mono HB3.out.size))
   clear hb4
   go_wp2_with fail
   go_ret
   exact ⟨rfl,HB4.out⟩
  ·rw [HNB.out] at hy
   cases hy
 ·have HNB:=Lib.hid hnb
  have HM:=Lib.hid hM
  have HAT:=Lib.hid hat
  clear hnb hM hat hbz
  go_wp2_with fail
  refine (rnew_any G room w2 (fun k hk=>Nat.lt_of_lt_of_le (HG.out k hk) HB2.out.size)).mono ?_
  rintro e w3 ⟨hb3,hcase⟩
  have HB3:=Lib.hid (HB2.out.trans (hb3.mono HB2.out.size))
  have HB3':=Lib.hid hb3
  clear hb3
  rcases hcase with ⟨hy,_⟩ | ⟨_,d,hdz,rfl,hat2⟩
  ·rw [HNB.out] at hy
   cases hy
  ·have HT:Hid (TwoA G w3 b (newC room) d (newM room) (fun k=>M k∨k=d)):=⟨G,G,M,fun k=>k=d,⟨HAT.out.below HB3'.out,hat2,fun k hk e=>by have:=HAT.out.lt k hk;omega,fun k hk e=>by have:=HG.out k hk;have:=HB2.out.size;omega,fun k hk hm=>HAT.out.apart_ k hk hm,fun _ h=>h,fun _ h=>h,fun _ h _=>h⟩,fun k=>⟨fun h=>h.elim .inl (fun h=>.inr (.inl h)),fun h=>h.elim .inl (fun h=>h.elim .inr (fun h=>(h.2 (h.1.elim id id)).elim))⟩⟩
   have HLOW:Hid (∀ q,M q∨q=d→w.heap.size≤q):=fun q hq=>by
    have:=HB1.out.size
    have:=HB2'.out.size
    rcases hq with hq | hq
    ·have:=HM.out q hq;omega
    ·omega
   have HIN0:Hid (RfInv G w (.slice A n c) l b d 0 w3 (fun k=>M k∨k=d) (newC room) (newM room) []):=⟨HT.out,TieG.new_ room,PB.new_ room [],Nat.zero_le _,(fun e he=>by cases he),HL.out.below HB3.out,HLOW.out,HB3.out⟩
   clear hat2 hdz HT HLOW
   go_wp2_with fail
   go_loopw [9] (fun iv wr=>∃ (k:Nat) (M:Nat→Prop) (cs:CSt) (s:FSM) (P:List (List UInt8)),k≤n∧iv=.int .i64 k∧RfInv G w (.slice A n c) l b d k wr M cs s P) (fun iv _=>n - (intOf iv).toNat)
   case atStart=>exact ⟨0,_,newC room,newM room,[],Nat.zero_le _,rfl,HIN0.out⟩
   case round =>
    obtain ⟨k,M',cs,s,P,hk,rfl,hinv⟩:=hrel
    have HI:=Lib.hid hinv
    clear hinv HAT HB2' HB3' HB3 HB2 HB1 HB0 HM HIN0
    have k0:(0:Int)≤(k:Int):=by omega
    by_cases hlt:k<n
    ·have k1:(k:Int)<(n:Int):=by omega
     have hkl:k<l.length:=by rw [HN.out];exact hlt
     obtain ⟨A',c',hv,_,_,hat⟩:=HI.out.ops
     injection hv with e1 e2 e3
     subst e1
     clear e2 e3
     obtain ⟨ad,dv,pv,rfl,hGa,hal,hoc⟩:=hat k l[k] (List.getElem?_eq_getElem hkl)
     clear hat
     have HRF:Hid (RFew l[k]):=HFW.out.2.1 _ (List.getElem_mem hkl)
     have HFO:Hid (OpFew l[k].f):=HFW.out.2.2 _ (List.getElem_mem hkl)
     have HDO:Hid (l[k].f.data.length≤140737488351232∧∀ e∈l[k].f.plan,e.data.length≤140737488351232):=HDL.out _ (List.getElem_mem hkl)
     generalize l[k]=o at *
     obtain ⟨rk,nm,ol,nw,fo⟩:=o
     obtain ⟨kd,mo,ke,tn',pa,de,da,pl⟩:=fo
     have HOK:Hid (OpOK ⟨kd,mo,ke,tn',pa,de,da,pl⟩):=⟨HFO.out.path,HFO.out.dest,HDO.out.1,HFO.out.plan,HFO.out.paths⟩
     obtain ⟨hdv,hplan,x0,x1,x2,x3,x4,x5,x6,x7,x8,x9,x10,x11⟩:=hoc
     dsimp only at x0 x1 x2 x3 x4 x5 x6 x7 x8 x9 x10 x11 hdv hplan
     obtain ⟨dA,dc,rfl,_,_⟩:=hdv.slice
     obtain ⟨pA,pc,rfl,_,_⟩:=evs_slice hplan.tmp
     have HDV:=Lib.hid hdv
     have HPL:=Lib.hid hplan
     clear hkl hGa hal hdv hplan
     go_upto_region 13 with (fail)
     obtain ⟨wx,hwx⟩:∃ x,x=wr.alloc (.cells #[.int .i64 rk,.string (str nm),.string (str ol),.string (str nw),.int .i64 kd,.int .i64 mo,.int .i64 ke,.int .i64 tn',.string (str pa),.string (str de),.slice dA da.length dc,.slice pA pl.length pc] 37):=⟨_,rfl⟩
     obtain ⟨g,hg⟩:∃ x,x=wr.heap.size:=⟨_,rfl⟩
     rw [← hwx]
     try rw [← hg]
     have HBX:Hid (Below wr.heap.size wr wx):=by unfold Hid;rw [hwx];exact (Below.refl _ _).alloc (Nat.le_refl _) _
     have HK:Hid (Blk wx g 37 #[.int .i64 rk,.string (str nm),.string (str ol),.string (str nw),.int .i64 kd,.int .i64 mo,.int .i64 ke,.int .i64 tn',.string (str pa),.string (str de),.slice dA da.length dc,.slice pA pl.length pc]):=by unfold Hid;rw [hwx,hg];exact heap_alloc_new wr _
     have HGZ:Hid (g=wr.heap.size):=hg
     clear hwx hg x0 x1 x2 x3 x4 x5 x6 x7 x8 x9 x10 x11
     obtain ⟨P',hP'⟩:∃ P',P++opPs ⟨rk,nm,ol,nw,⟨kd,mo,ke,tn',pa,de,da,pl⟩⟩=P':=⟨_,rfl⟩
     have HPP:=Lib.hid hP'
     have HPB:Hid (PB cs P'):=by unfold Hid;rw [← hP'];exact HI.out.pb.mono (fun p hp=>List.mem_append_left _ hp)
     have HIN:Hid (lockP nm∈P'∧refP nm∈P'∧pa∈P'∧de∈P'∧∀ e∈pl,e.path∈P'):=by
      unfold Hid
      rw [← hP']
      unfold opPs
      refine ⟨by simp,by simp,by simp,by simp,fun e he=>List.mem_append_right _ (List.mem_append_right _ (List.mem_map.2 ⟨e,he,rfl⟩))⟩
     have HPL':Hid (P'.length≤3840):=by
      unfold Hid
      have h1:=opPs_len (o:=⟨rk,nm,ol,nw,⟨kd,mo,ke,tn',pa,de,da,pl⟩⟩) HFO.out.plan
      have h2:=HI.out.len
      rw [← hP',List.length_append]
      omega
     have HLN:Hid (nm.length≤800000∧ol.length≤800000∧nw.length≤800000):=⟨Nat.le_trans HRF.out.name (by decide),Nat.le_trans HRF.out.old (by decide),Nat.le_trans HRF.out.new (by decide)⟩
     have HK39:Hid (3900*k+3900≤380000):=by unfold Hid;omega
     obtain ⟨Ff,Fx,Mf,Mx,hX0,hMM⟩:=HI.out.two
     have HX:=Lib.hid (hX0.below HBX.out)
     have HMM:=Lib.hid hMM
     have HLT:Hid (∀ q,Mf q∨Mx q→q<g):=fun q hq=>by
      rw [HGZ.out]
      exact hq.elim (fun h=>hX0.f.lt q h) (fun h=>hX0.x.mlt q h)
     clear hX0 hMM hP'
     have HTI:=Lib.hid HI.out.tie
     have HUS:=Lib.hid HI.out.usr
     have y0:=HK.out.cell 0
     go_upto_block 2 with (fail)
     go_cut [11] (fun tv wy=>tv=.bool true∧Went G M' wr b d k P' wy)
     case first =>
      have HSC:Hid (∀ W,Blk W g 37 #[.int .i64 rk,.string (str nm),.string (str ol),.string (str nw),.int .i64 kd,.int .i64 mo,.int .i64 ke,.int .i64 tn',.string (str pa),.string (str de),.slice dA da.length dc,.slice pA pl.length pc]→W.cell? ⟨g,1,none⟩=some (.string (str nm))∧W.cell? ⟨g,2,none⟩=some (.string (str ol))∧W.cell? ⟨g,3,none⟩=some (.string (str nw))):=fun W hW=>⟨hW.cell 1,hW.cell 2,hW.cell 3⟩
      have HSC1:Hid (∀ {cp:CSt} (W:World),FcPost Ff Mf wx b cp W→Only Mf wx W∧Blk W g 37 #[.int .i64 rk,.string (str nm),.string (str ol),.string (str nw),.int .i64 kd,.int .i64 mo,.int .i64 ke,.int .i64 tn',.string (str pa),.string (str de),.slice dA da.length dc,.slice pA pl.length pc]):=fun W hp=>by
       obtain ⟨_,_,ho,_⟩:=hp
       exact ⟨ho,ho.blk HK.out (fun hm=>by have:=HLT.out g (.inl hm);omega)⟩
      have HSC2:Hid (∀ {cp:CSt} {j:Nat} {W1:World} (W:World),RPost Fx Mx W1 d cp j W→Only Mf wx W1→Blk W1 g 37 #[.int .i64 rk,.string (str nm),.string (str ol),.string (str nw),.int .i64 kd,.int .i64 mo,.int .i64 ke,.int .i64 tn',.string (str pa),.string (str de),.slice dA da.length dc,.slice pA pl.length pc]→W.cell? ⟨g,1,none⟩=some (.string (str nm))∧W.cell? ⟨g,2,none⟩=some (.string (str ol))∧W.cell? ⟨g,3,none⟩=some (.string (str nw))):=fun W hq _ hb=>by
       obtain ⟨_,⟨_,_,ho,_⟩,_⟩:=hq
       exact HSC.out _ (ho.blk hb (fun hm=>by have:=HLT.out g (.inr hm);omega))
      have q0:=HSC.out _ HK.out
      by_cases h0:rk=0
      ·subst h0
       obtain ⟨gv,hgv⟩:∃ x,getV cs nm=x:=⟨_,rfl⟩
       obtain ⟨ge,hge⟩:∃ x,getE cs nm=x:=⟨_,rfl⟩
       have HGV:=Lib.hid hgv
       have HGE:=Lib.hid hge
       clear hgv hge
       go_wp2_with fail
       refine (get_any Ff Mf b cs (3900*k) nm wx HX.out.f (HTI.out.go.ready (by have:=HK39.out;omega)) (by have:=HLN.out.1;omega)).mono ?_
       rintro e w1 ⟨rfl,hp⟩
       rw [HGV.out,HGE.out]
       have HP1:=Lib.hid hp
       have q1:=HSC.out _ (HSC1.out _ hp).2
       clear hp
       go_wp2_with fail
       refine (rgetr_any nm (HX.out.gotR HP1.out ⟨_,HTI.out,Nat.le_refl _⟩) (by have:=HK39.out;omega) HLN.out.1).mono ?_
       rintro e w2 ⟨rfl,hq⟩
       rw [HGV.out,HGE.out]
       have HQ2:=Lib.hid hq
       clear hq
       go_wp2_with fail
       go_meet
       exact ⟨by simp,Went.of_two HX.out HMM.out HBX.out HP1.out HQ2.out (by omega) (HPB.out.get_ nm) (HUS.out.get_ nm)⟩
      have z0:(rk==0)=false:=by rw [beq_eq_false_iff_ne];exact h0
      by_cases h1:rk=1
      ·subst h1
       obtain ⟨es,hes⟩:∃ x,setE cs nm ol nw=x:=⟨_,rfl⟩
       have HES:=Lib.hid hes
       clear hes h0
       go_upto_region 21 with (fail)
       go_region_held3 (fun W=>W.cell? ⟨g,1,none⟩=some (.string (str nm))∧W.cell? ⟨g,2,none⟩=some (.string (str ol))∧W.cell? ⟨g,3,none⟩=some (.string (str nw)))
        (first | exact q2 | exact q1 | exact q0)
        (first
         | (go_at_call 11;refine (rset_any nm ol nw (HX.out.gotR HP1.out ⟨_,HTI.out,Nat.le_refl _⟩) (by have:=HK39.out;omega) HLN.out.1 HLN.out.2.1 HLN.out.2.2).mono ?_;rintro e w2 ⟨rfl,hq⟩;rw [HES.out];have HQ2:=Lib.hid hq;have q2:=HSC2.out _ hq (HO1.out) (HK1.out);clear hq)
         | (go_at_call 10;refine (sets_any Ff Mf b cs (3900*k) nm ol nw _ HX.out.f.drew_ HTI.out.go (by have:=HK39.out;omega) (by have:=HLN.out.1;omega) (by have:=HLN.out.2.1;omega) (by have:=HLN.out.2.2;omega)).mono ?_;rintro e w1 ⟨rfl,hp⟩;rw [HES.out];have HP1:=Lib.hid (FcPost.of_drew hp);have HO1:=Lib.hid (HSC1.out _ (FcPost.of_drew hp)).1;have HK1:=Lib.hid (HSC1.out _ (FcPost.of_drew hp)).2;have q1:=HSC.out _ HK1.out;clear hp))
       go_wp2_with fail
       go_meet
       exact ⟨by simp,Went.of_two HX.out HMM.out HBX.out HP1.out HQ2.out (by omega) (HPB.out.set_ nm ol nw HIN.out.1 HIN.out.2.1) (HUS.out.set_ nm ol nw)⟩
      have z1:(rk==1)=false:=by rw [beq_eq_false_iff_ne];exact h1
      by_cases h2:rk=2
      ·subst h2
       obtain ⟨es,hes⟩:∃ x,delE cs nm ol=x:=⟨_,rfl⟩
       have HES:=Lib.hid hes
       clear hes h0 h1
       go_upto_region 23 with (fail)
       go_region_held3 (fun W=>W.cell? ⟨g,1,none⟩=some (.string (str nm))∧W.cell? ⟨g,2,none⟩=some (.string (str ol))∧W.cell? ⟨g,3,none⟩=some (.string (str nw)))
        (first | exact q2 | exact q1 | exact q0)
        (first
         | (go_at_call 13;refine (rdel_any nm ol (HX.out.gotR HP1.out ⟨_,HTI.out,Nat.le_refl _⟩) (by have:=HK39.out;omega) HLN.out.1 HLN.out.2.1).mono ?_;rintro e w2 ⟨rfl,hq⟩;rw [HES.out];have HQ2:=Lib.hid hq;have q2:=HSC2.out _ hq (HO1.out) (HK1.out);clear hq)
         | (go_at_call 12;refine (dels_any Ff Mf b cs (3900*k) nm ol _ HX.out.f.drew_ HTI.out.go (by have:=HK39.out;omega) (by have:=HLN.out.1;omega) (by have:=HLN.out.2.1;omega)).mono ?_;rintro e w1 ⟨rfl,hp⟩;rw [HES.out];have HP1:=Lib.hid (FcPost.of_drew hp);have HO1:=Lib.hid (HSC1.out _ (FcPost.of_drew hp)).1;have HK1:=Lib.hid (HSC1.out _ (FcPost.of_drew hp)).2;have q1:=HSC.out _ HK1.out;clear hp))
       go_wp2_with fail
       go_meet
       exact ⟨by simp,Went.of_two HX.out HMM.out HBX.out HP1.out HQ2.out (by omega) (HPB.out.del_ nm ol) (HUS.out.del_ nm ol)⟩
      have z2:(rk==2)=false:=by rw [beq_eq_false_iff_ne];exact h2
      by_cases h3:rk=3
      ·subst h3
       obtain ⟨es,hes⟩:∃ x,lisE cs refD=x:=⟨_,rfl⟩
       have HES:=Lib.hid hes
       obtain ⟨L,hL⟩:∃ x,rlsV cs refD=x:=⟨_,rfl⟩
       have HLL:=Lib.hid hL
       clear hes hL h0 h1 h2
       go_wp2_with fail
       refine (rlists_any Ff Mf b cs (3900*k) wx HX.out.f HTI.out.go (by have:=HK39.out;omega)).mono ?_
       rintro e w1 ⟨v1,w1x,rfl,hp,hb1,ho1⟩
       rw [HES.out]
       rw [HLL.out] at ho1
       have HP1:=Lib.hid (hp.then_below hb1)
       have HV1:=Lib.hid ho1
       have HZ1:Hid (∀ q,Mx q→q<w1x.heap.size):=fun q hq=>by
        obtain ⟨_,_,ho,_⟩:=hp
        have h1:=HX.out.x.mlt q hq
        have h2:=ho.size
        omega
       clear hp hb1 ho1
       go_wp2_with fail
       refine (rlrefs_any (HX.out.gotR HP1.out ⟨_,HTI.out,Nat.le_refl _⟩) (by have:=HK39.out;omega)).mono ?_
       rintro e w2 ⟨v2,w2x,rfl,hq,hb2,ho2⟩
       rw [HES.out]
       rw [HLL.out] at ho2
       have HQ2:=Lib.hid (hq.then_below hb2)
       have HV2:=Lib.hid ho2
       have HV12:Hid (OwnV 9 w2 w1x.heap.size v1 ((L.map str).map sv)):=by
        obtain ⟨_,⟨_,_,ho,_⟩,_⟩:=hq
        exact (HV1.out.stays ho HZ1.out).below hb2
       clear hq hb2 ho2
       go_wp2_with fail
       refine (texts_any v1 v2 (L.map str) (L.map str) w2 HV12.out.slv HV2.out.slv).mono ?_
       rintro e w3 ⟨t3,rfl,ht3,hb3⟩
       have ht:t3=true:=ht3.2 rfl
       subst ht
       have HB3:=Lib.hid hb3
       clear ht3 hb3
       go_wp2_with fail
       go_meet
       exact ⟨by simp,(Went.of_two HX.out HMM.out HBX.out HP1.out HQ2.out (by omega) HPB.out.bg HUS.out.bg).then_below HB3.out⟩
      have z3:(rk==3)=false:=by rw [beq_eq_false_iff_ne];exact h3
      by_cases h4:rk=4
      ·subst h4
       obtain ⟨es,hes⟩:∃ x,ulkE cs=x:=⟨_,rfl⟩
       have HES:=Lib.hid hes
       obtain ⟨un,hun⟩:∃ x,ulkN cs=x:=⟨_,rfl⟩
       have HUN:=Lib.hid hun
       have HH0:Hid ((bgC cs).c.here.length≤3840):=Nat.le_trans (HPB.out.bg.few (HTI.out.bg (by have:=HK39.out;omega)).ord) HPL'.out
       have HRL:=Lib.hid (HTI.out.rls (dir:=lockD) (by have:=HK39.out;omega) (by decide))
       clear hes hun h0 h1 h2 h3
       go_wp2_with fail
       refine (unlocks_any Ff Mf b cs (3900*k) wx HX.out.f HTI.out.go (by have:=HK39.out;have:=HRL.out.2.1;have:=HH0.out;omega) (fun q hq=>Nat.le_trans (HRL.out.2.2 q hq) (by decide))).mono ?_
       rintro e w1 ⟨rfl,hp⟩
       rw [HES.out,HUN.out]
       have HP1:=Lib.hid hp
       clear hp
       go_wp2_with fail
       refine (runlock_any (H0:=3840) (HX.out.gotR HP1.out ⟨_,HTI.out,Nat.le_refl _⟩) HH0.out (by have:=HK39.out;omega)).mono ?_
       rintro e w2 ⟨rfl,hq⟩
       rw [HES.out,HUN.out]
       have HQ2:=Lib.hid hq
       clear hq
       go_wp2_with fail
       go_meet
       exact ⟨by simp,Went.of_two HX.out HMM.out HBX.out HP1.out HQ2.out (by omega) HPB.out.ulk HUS.out.ulk⟩
      have z4:(rk==4)=false:=by rw [beq_eq_false_iff_ne];exact h4
      have y4:=HK.out.cell 4
      have y5:=HK.out.cell 5
      have y6:=HK.out.cell 6
      have y7:=HK.out.cell 7
      have y8:=HK.out.cell 8
      have y9:=HK.out.cell 9
      have y10:=HK.out.cell 10
      have y11:=HK.out.cell 11
      have hdo:=does_y G M' b d cs s (3900*k) ⟨kd,mo,ke,tn',pa,de,da,pl⟩ (.slice dA da.length dc) (.slice pA pl.length pc) G wx (HI.out.two.below HBX.out) HTI.out.tied (HTI.out.goN (by have:=HK39.out;omega)) (HTI.out.goMN (by have:=HK39.out;omega)) (by have:=HK39.out;omega) HOK.out (HDV.out.only (Only.of_below (M:=fun _=>False) HBX.out) (fun _ _=>id)) (fun q hq=>HI.out.two.apart_ q hq) (HPL.out.only (Only.of_below (M:=fun _=>False) HBX.out) (fun _ _=>id)) HDO.out.2
      unfold opV at hdo
      have HDOES:=Lib.hid hdo
      clear hdo h0 h1 h2 h3 h4 HSC HSC1 HSC2 q0
      go_wp2_with fail
      refine HDOES.out.mono ?_
      rintro e w5 ⟨c5,rfl,hdr,htd,hp5⟩
      have HWE:Hid (Went G M' wr b d k P' w5):=⟨c5,_,TwoQ.of_below HBX.out hp5,(HTI.out.doesR HOK.out hdr htd).upto (by omega),HPB.out.doesR hdr HIN.out.2.2.1 HIN.out.2.2.2.1 HIN.out.2.2.2.2,HUS.out.doesR hdr⟩
      clear hdr htd hp5
      go_wp2_with fail
      go_meet
      exact ⟨rfl,HWE.out⟩
     case rest =>
      obtain ⟨rfl,hw⟩:=hcut
      have HW:=Lib.hid hw
      clear hw y0
      go_wp2_with fail
      refine (HW.out.same (by omega)).mono ?_
      rintro e w6 ⟨rfl,hb6⟩
      have HN6:=HI.out.next (o:=⟨rk,nm,ol,nw,⟨kd,mo,ke,tn',pa,de,da,pl⟩⟩) HFO.out.plan (by rw [HPP.out];exact HW.out) hb6
      rw [HPP.out] at HN6
      obtain ⟨M7,c7,s7,h7⟩:=HN6
      have HI7:=Lib.hid h7
      clear h7 hb6
      go_wp2_with fail
      go_roundw
      case rel=>exact ⟨k+1,M7,c7,s7,P',by omega,by go_num,HI7.out⟩
      case measure=>simp [intOf];omega
    ·obtain rfl:k=n:=by omega
     have HBZ:=Lib.hid HI.out.below
     go_wp2_with fail
     refine (rfirst_any wr).mono ?_
     rintro e w4 ⟨rfl,hb4⟩
     have HB4:=Lib.hid (HBZ.out.trans (hb4.mono HBZ.out.size))
     clear hb4
     go_wp2_with fail
     go_ret
     exact ⟨rfl,HB4.out⟩
theorem refsPlays_walk {p:Prop} (room:Int) (v:Value) (l:List ROp) (w:World) (_:p) (h:OpsR (Low w) w v l) (hb:∀ o∈l,o.f.data.length≤140737488351232∧∀ e∈o.f.plan,e.data.length≤140737488351232):Calls Tryz.prog 3 #[.int .i64 room,v] w (Yes w) :=
 refsplay_any (Low w) room v l w h (fun _ hk=>hk) hb
end Go.Proofs.YtlkolcokjmlmjaaGreat.Tx
