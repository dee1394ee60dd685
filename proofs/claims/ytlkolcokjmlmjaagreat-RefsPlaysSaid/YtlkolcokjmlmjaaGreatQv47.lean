/- Texts put together: VHe0. -/
import Derived.Test.YtlkolcokjmlmjaaGreatQv42
import Derived.Test.YtlkolcokjmlmjaaGreatQv28
import Derived.Test.YtlkolcokjmlmjaaGreatQv30
namespace Go.Proofs.YtlkolcokjmlmjaaGreat.Tx
open Go.RowKit Go.Maps Go.Proofs.YtlkolcokjmlmjaaGreat.Sh
structure GoN (c:CSt) (i:Nat):Prop where
 fits:CFits c i
 calls:0≤c.calls∧c.calls≤4000000
 plan:c.plan.length≤60
 paths:∀ e∈c.plan,e.path.length≤400
structure GoMN (s:FSM) (i:Nat):Prop where
 fits:Fits s i
 calls:0≤s.calls∧s.calls≤4000000
 plan:s.plan.length≤60
 paths:∀ e∈s.plan,e.path.length≤400
theorem GoN.ready {c:CSt} {i:Nat} (h:GoN c i) (hi:i≤500000):CReady c i :=
 ⟨h.fits,by have:=h.plan;omega,⟨h.calls.1,by have:=h.calls.2;omega⟩,fun e he=>Nat.le_trans (h.paths e he) (by decide)⟩
theorem GoMN.ready {s:FSM} {i:Nat} (h:GoMN s i) (hi:i≤500000):Ready s i :=
 ⟨h.fits,by have:=h.plan;omega,⟨h.calls.1,by have:=h.calls.2;omega⟩,fun e he=>Nat.le_trans (h.paths e he) (by decide)⟩
set_option maxRecDepth 100000 in
set_option maxHeartbeats 6400000 in
theorem does_y0 (F M : Nat → Prop) (b d : Nat) (c : CSt) (s : FSM) (i : Nat) (o : LOp) (dv pv : Value) (_hpv : pv.oneCell' = true) (G : Nat → Prop) (w : World) (h : TwoA F w b c d s M) (htd : Tied c s) (hc : GoN c i) (hs : GoMN s i) (hi : i ≤ 500000) (ho : OpOK o) (hk : 0 ≤ o.kind ∧ o.kind ≤ 11) (hdv : By G w dv o.data) (hG : ∀ k, G k → ¬ M k) :
  Calls Tryz.prog 19 #[.pointer (some ⟨b,0,none⟩),.pointer (some ⟨d,0,none⟩),opV o dv pv] w fun e w'=>e=.returned (.bool true)∧TwoQ F M w b (doesC c o) d (doesM s o) w':=by
 obtain ⟨kd,mo,ke,tn,pa,de,da,pl⟩:=o
 unfold opV
 dsimp only at hk hdv ⊢
 obtain ⟨dA,dc,rfl,_,_⟩:=hdv.slice
 obtain ⟨dl,hdl⟩:∃ dl,da.length=dl:=⟨_,rfl⟩
 have hba:=(Below.refl w.heap.size w).alloc (Nat.le_refl _) (.cells #[.int .i64 kd,.int .i64 mo,.int .i64 ke,.int .i64 tn,.string (str pa),.string (str de),.slice dA dl dc,pv] 35)
 have hbk:Blk (w.alloc (.cells #[.int .i64 kd,.int .i64 mo,.int .i64 ke,.int .i64 tn,.string (str pa),.string (str de),.slice dA dl dc,pv] 35)) w.heap.size 35 #[.int .i64 kd,.int .i64 mo,.int .i64 ke,.int .i64 tn,.string (str pa),.string (str de),.slice dA dl dc,pv]:=Blk.new _ _ _
 rw [hdl] at hdv ⊢
 go_enter Tryz.func19,Tryz.ntmps19
 have c3:=hbk.cell 6
 have HDV:=Lib.hid hdv.bound
 have hsl:SlV (w.alloc (.cells #[.int .i64 kd,.int .i64 mo,.int .i64 ke,.int .i64 tn,.string (str pa),.string (str de),.slice dA dl dc,pv] 35)) (.slice dA dl dc) (da.map bv):=(hdv.only (Only.of_below (M:=fun _=>False) hba) (fun _ _=>id)).slv
 have HTD:=Lib.hid htd
 have HNT:Hid (i+2*c.plan.length≤900000):=by have:=hc.plan;show _≤_;omega
 have HG:=Lib.hid hG
 have HC:=Lib.hid (hc.ready (by omega))
 have HCF:=Lib.hid hc.fits
 have HSM:=Lib.hid hs
 have HS:=Lib.hid (hs.ready (by omega))
 have HO:=Lib.hid ho
 have HDL:=Lib.hid hdl
 have H:=Lib.hid h
 have HBA:=Lib.hid hba
 have HBK:=Lib.hid hbk
 have HSL:=Lib.hid hsl
 have HI:=Lib.hid hi
 clear htd hdv hG hc hs ho hdl h hba hbk hsl hi
 go_wp2_with fail
 refine (rcopyb_big (.slice dA dl dc) da _ HSL.out (by have h9:da.length≤140737488351232:=HO.out.data;omega)).mono ?_
 rintro e w0 ⟨iv,rfl,hown,hb0⟩
 obtain ⟨iA,ic,rfl,_,_⟩:=hown.slv
 rw [List.length_map,HDL.out] at hown ⊢
 have HOWN:=Lib.hid hown
 have HB0:=Lib.hid (HBA.out.trans (hb0.mono HBA.out.size))
 have HBK0:Hid (Blk w0 w.heap.size 35 #[.int .i64 kd,.int .i64 mo,.int .i64 ke,.int .i64 tn,.string (str pa),.string (str de),.slice dA dl dc,pv]):=HBK.out.below hb0 (by simp)
 have hz0:w.heap.size<w0.heap.size:=by have:=hb0.size;simp at this;omega
 have HZ0:=Lib.hid hz0
 have H0:Hid (TwoA F w0 b c d s M):=H.out.below HB0.out
 clear hown hb0 hz0 c3
 have HT0:Hid (TwoQ F M w0 b c d s w0):=TwoQ.refl H0.out
 have HML:Hid (∀ k,M k→k<w.heap.size):=H.out.lt
 have HSC:Hid (∀ W,Only M w0 W→W.cell? ⟨w.heap.size,0,none⟩=some (.int .i64 kd)∧W.cell? ⟨w.heap.size,1,none⟩=some (.int .i64 mo)∧W.cell? ⟨w.heap.size,2,none⟩=some (.int .i64 ke)∧W.cell? ⟨w.heap.size,3,none⟩=some (.int .i64 tn)∧W.cell? ⟨w.heap.size,4,none⟩=some (.string (str pa))∧W.cell? ⟨w.heap.size,5,none⟩=some (.string (str de))∧W.cell? ⟨w.heap.size,6,none⟩=some (.slice dA dl dc)):=fun W hW=>by
  have b1:=hW.blk HBK0.out (fun hm=>by have:=HML.out _ hm;omega)
  exact ⟨b1.cell 0,b1.cell 1,b1.cell 2,b1.cell 3,b1.cell 4,b1.cell 5,b1.cell 6⟩
 have HIN:Hid (By (fun k=>w.heap.size<k∧k<w0.heap.size) w0 (.slice iA dl ic) da):=by
  have h1:=OwnV.by_ (F:=fun _=>False) HOWN.out
  exact h1.mono (fun k _ hk=>by
   rcases hk with hk | ⟨g1,g2⟩
   ·exact hk.elim
   ·simp at g1;exact ⟨by omega,g2⟩)
 have HD0:Hid (By (fun k=>G k∧k<w.heap.size) w0 (.slice dA dl dc) da):=HDV.out.only (Only.of_below (M:=fun _=>False) HB0.out) (fun _ _=>id)
 have q0:=HSC.out w0 (Only.refl _ _)
 have HPA:Hid (pa.length≤900000):=Nat.le_trans HO.out.path (by decide:400≤900000)
 have HDE:Hid (de.length≤900000):=Nat.le_trans HO.out.dest (by decide:400≤900000)
 have HI7:Hid (i≤700000):=by have:=HI.out;show i≤700000;omega
 go_upto_block 0 with (fail)
 go_cut [8] (fun v wx=>v=.bool true∧TwoQ F M w0 b (doesC c ⟨kd,mo,ke,tn,pa,de,da,pl⟩) d (doesM s ⟨kd,mo,ke,tn,pa,de,da,pl⟩) wx)
 case first =>
  by_cases e0:kd=0
  ·subst e0
   have HEQ:=Lib.hid ((HTD.out.crt HCF.out HNT.out pa mo da true).1)
   go_upto_region 5 with (fail)
   go_region_held3 (fun W=>W.cell? ⟨w.heap.size,1,none⟩=some (.int .i64 mo)∧W.cell? ⟨w.heap.size,2,none⟩=some (.int .i64 ke)∧W.cell? ⟨w.heap.size,3,none⟩=some (.int .i64 tn)∧W.cell? ⟨w.heap.size,4,none⟩=some (.string (str pa))∧W.cell? ⟨w.heap.size,5,none⟩=some (.string (str de))∧W.cell? ⟨w.heap.size,6,none⟩=some (.slice dA dl dc))
    (first | exact q2.2 | exact q1.2 | exact q0.2)
    (first
     | (go_at_call 34;have hop:=HT1.out.open_x H0.out;obtain ⟨F1,Mf,Mx,_,hx,_,hmx,ho1,_,kx⟩:=hop;have hdj:=dj_x hmx HG.out HZ0.out;refine (rcreate_any F1 Mx d s _ pa mo (.slice dA dl dc) da _ _ hx HS.out (HD0.out.only HON1.out (fun k hk=>HG.out k hk.1)) hdj (Nat.le_trans HPA.out (by decide))).mono ?_;rintro e w2 ⟨rfl,hp⟩;have HT2:=Lib.hid (kx hp);clear hp hx hmx ho1 kx hdj;have hon2:=HT2.out;obtain ⟨_,_,hon2,_⟩:=hon2;have q2:=HSC.out w2 hon2;clear hon2)
     | (go_at_call 31;have hop:=HT0.out.open_f H0.out;obtain ⟨F1,Mf,Mx,hf,_,hmf,_,ho1,kf,_⟩:=hop;have hdj:=dj_f hmf HML.out;refine (create_any F1 Mf b c _ pa mo (.slice iA dl ic) da _ _ hf.drew_ HC.out HIN.out.drew_ hdj (Nat.le_trans HPA.out (by decide))).mono ?_;rintro e w1 ⟨rfl,hp⟩;have HT1:=Lib.hid (kf (FcPost.of_drew hp));clear hp hf hmf ho1 kf hdj;have hon1:=HT1.out;obtain ⟨_,_,hon1,_⟩:=hon1;have q1:=HSC.out w1 hon1;have HON1:=Lib.hid hon1;clear hon1))
   go_wp2_with fail
   go_meet
   exact ⟨by rw [HEQ.out];simp,by simpa [doesC,doesM] using HT2.out⟩
  by_cases e1:kd=1
  ·subst e1
   have HEQ:=Lib.hid ((HTD.out.crt HCF.out HNT.out pa mo da false).1)
   go_upto_region 7 with (fail)
   go_region_held3 (fun W=>W.cell? ⟨w.heap.size,1,none⟩=some (.int .i64 mo)∧W.cell? ⟨w.heap.size,2,none⟩=some (.int .i64 ke)∧W.cell? ⟨w.heap.size,3,none⟩=some (.int .i64 tn)∧W.cell? ⟨w.heap.size,4,none⟩=some (.string (str pa))∧W.cell? ⟨w.heap.size,5,none⟩=some (.string (str de))∧W.cell? ⟨w.heap.size,6,none⟩=some (.slice dA dl dc))
    (first | exact q2.2 | exact q1.2 | exact q0.2)
    (first
     | (go_at_call 48;have hop:=HT1.out.open_x H0.out;obtain ⟨F1,Mf,Mx,_,hx,_,hmx,ho1,_,kx⟩:=hop;have hdj:=dj_x hmx HG.out HZ0.out;refine (rwrite_any F1 Mx d s _ pa mo (.slice dA dl dc) da _ _ hx HS.out (HD0.out.only HON1.out (fun k hk=>HG.out k hk.1)) hdj (Nat.le_trans HPA.out (by decide))).mono ?_;rintro e w2 ⟨rfl,hp⟩;have HT2:=Lib.hid (kx hp);clear hp hx hmx ho1 kx hdj;have hon2:=HT2.out;obtain ⟨_,_,hon2,_⟩:=hon2;have q2:=HSC.out w2 hon2;clear hon2)
     | (go_at_call 47;have hop:=HT0.out.open_f H0.out;obtain ⟨F1,Mf,Mx,hf,_,hmf,_,ho1,kf,_⟩:=hop;have hdj:=dj_f hmf HML.out;refine (writef_any F1 Mf b c _ pa mo (.slice iA dl ic) da _ _ hf.drew_ HC.out HIN.out.drew_ hdj (Nat.le_trans HPA.out (by decide))).mono ?_;rintro e w1 ⟨rfl,hp⟩;have HT1:=Lib.hid (kf (FcPost.of_drew hp));clear hp hf hmf ho1 kf hdj;have hon1:=HT1.out;obtain ⟨_,_,hon1,_⟩:=hon1;have q1:=HSC.out w1 hon1;have HON1:=Lib.hid hon1;clear hon1))
   go_wp2_with fail
   go_meet
   exact ⟨by rw [HEQ.out];simp,by simpa [doesC,doesM] using HT2.out⟩
  by_cases e2:kd=2
  ·subst e2
   have HEQ:=Lib.hid ((HTD.out.mov HCF.out HNT.out pa de false).1)
   go_upto_region 9 with (fail)
   go_region_held3 (fun W=>W.cell? ⟨w.heap.size,1,none⟩=some (.int .i64 mo)∧W.cell? ⟨w.heap.size,2,none⟩=some (.int .i64 ke)∧W.cell? ⟨w.heap.size,3,none⟩=some (.int .i64 tn)∧W.cell? ⟨w.heap.size,4,none⟩=some (.string (str pa))∧W.cell? ⟨w.heap.size,5,none⟩=some (.string (str de))∧W.cell? ⟨w.heap.size,6,none⟩=some (.slice dA dl dc))
    (first | exact q2.2 | exact q1.2 | exact q0.2)
    (first
     | (go_at_call 38;have hop:=HT1.out.open_x H0.out;obtain ⟨F1,Mf,Mx,_,hx,_,hmx,ho1,_,kx⟩:=hop;have hdj:=dj_x hmx HG.out HZ0.out;refine (rmove_any' F1 Mx d s _ pa de _ hx HS.out (Nat.le_trans HPA.out (by decide)) (Nat.le_trans HDE.out (by decide))).mono ?_;rintro e w2 ⟨rfl,hp⟩;have HT2:=Lib.hid (kx hp);clear hp hx hmx ho1 kx hdj;have hon2:=HT2.out;obtain ⟨_,_,hon2,_⟩:=hon2;have q2:=HSC.out w2 hon2;clear hon2)
     | (go_at_call 49;have hop:=HT0.out.open_f H0.out;obtain ⟨F1,Mf,Mx,hf,_,hmf,_,ho1,kf,_⟩:=hop;have hdj:=dj_f hmf HML.out;refine (movef_any F1 Mf b c _ pa de _ hf.drew_ HC.out (Nat.le_trans HPA.out (by decide)) (Nat.le_trans HDE.out (by decide))).mono ?_;rintro e w1 ⟨rfl,hp⟩;have HT1:=Lib.hid (kf (FcPost.of_drew hp));clear hp hf hmf ho1 kf hdj;have hon1:=HT1.out;obtain ⟨_,_,hon1,_⟩:=hon1;have q1:=HSC.out w1 hon1;have HON1:=Lib.hid hon1;clear hon1))
   go_wp2_with fail
   go_meet
   exact ⟨by rw [HEQ.out];simp,by simpa [doesC,doesM] using HT2.out⟩
  by_cases e3:kd=3
  ·subst e3
   have HEQ:=Lib.hid ((HTD.out.mov HCF.out HNT.out pa de true).1)
   go_upto_region 11 with (fail)
   go_region_held3 (fun W=>W.cell? ⟨w.heap.size,1,none⟩=some (.int .i64 mo)∧W.cell? ⟨w.heap.size,2,none⟩=some (.int .i64 ke)∧W.cell? ⟨w.heap.size,3,none⟩=some (.int .i64 tn)∧W.cell? ⟨w.heap.size,4,none⟩=some (.string (str pa))∧W.cell? ⟨w.heap.size,5,none⟩=some (.string (str de))∧W.cell? ⟨w.heap.size,6,none⟩=some (.slice dA dl dc))
    (first | exact q2.2 | exact q1.2 | exact q0.2)
    (first
     | (go_at_call 51;have hop:=HT1.out.open_x H0.out;obtain ⟨F1,Mf,Mx,_,hx,_,hmx,ho1,_,kx⟩:=hop;have hdj:=dj_x hmx HG.out HZ0.out;refine (rmovenew_any F1 Mx d s _ pa de _ hx HS.out (Nat.le_trans HPA.out (by decide)) (Nat.le_trans HDE.out (by decide))).mono ?_;rintro e w2 ⟨rfl,hp⟩;have HT2:=Lib.hid (kx hp);clear hp hx hmx ho1 kx hdj;have hon2:=HT2.out;obtain ⟨_,_,hon2,_⟩:=hon2;have q2:=HSC.out w2 hon2;clear hon2)
     | (go_at_call 50;have hop:=HT0.out.open_f H0.out;obtain ⟨F1,Mf,Mx,hf,_,hmf,_,ho1,kf,_⟩:=hop;have hdj:=dj_f hmf HML.out;refine (movenew_any F1 Mf b c _ pa de _ hf.drew_ HC.out (Nat.le_trans HPA.out (by decide)) (Nat.le_trans HDE.out (by decide))).mono ?_;rintro e w1 ⟨rfl,hp⟩;have HT1:=Lib.hid (kf (FcPost.of_drew hp));clear hp hf hmf ho1 kf hdj;have hon1:=HT1.out;obtain ⟨_,_,hon1,_⟩:=hon1;have q1:=HSC.out w1 hon1;have HON1:=Lib.hid hon1;clear hon1))
   go_wp2_with fail
   go_meet
   exact ⟨by rw [HEQ.out];simp,by simpa [doesC,doesM] using HT2.out⟩
  by_cases e4:kd=4
  ·subst e4
   have HEQ:=Lib.hid ((HTD.out.rem HCF.out HNT.out pa).1)
   go_upto_region 13 with (fail)
   go_region_held3 (fun W=>W.cell? ⟨w.heap.size,1,none⟩=some (.int .i64 mo)∧W.cell? ⟨w.heap.size,2,none⟩=some (.int .i64 ke)∧W.cell? ⟨w.heap.size,3,none⟩=some (.int .i64 tn)∧W.cell? ⟨w.heap.size,4,none⟩=some (.string (str pa))∧W.cell? ⟨w.heap.size,5,none⟩=some (.string (str de))∧W.cell? ⟨w.heap.size,6,none⟩=some (.slice dA dl dc))
    (first | exact q2.2 | exact q1.2 | exact q0.2)
    (first
     | (go_at_call 37;have hop:=HT1.out.open_x H0.out;obtain ⟨F1,Mf,Mx,_,hx,_,hmx,ho1,_,kx⟩:=hop;have hdj:=dj_x hmx HG.out HZ0.out;refine (rremove_any F1 Mx d s _ pa _ hx HS.out (Nat.le_trans HPA.out (by decide))).mono ?_;rintro e w2 ⟨rfl,hp⟩;have HT2:=Lib.hid (kx hp);clear hp hx hmx ho1 kx hdj;have hon2:=HT2.out;obtain ⟨_,_,hon2,_⟩:=hon2;have q2:=HSC.out w2 hon2;clear hon2)
     | (go_at_call 39;have hop:=HT0.out.open_f H0.out;obtain ⟨F1,Mf,Mx,hf,_,hmf,_,ho1,kf,_⟩:=hop;have hdj:=dj_f hmf HML.out;refine (removef_any F1 Mf b c _ pa _ hf.drew_ HC.out (Nat.le_trans HPA.out (by decide))).mono ?_;rintro e w1 ⟨rfl,hp⟩;have HT1:=Lib.hid (kf (FcPost.of_drew hp));clear hp hf hmf ho1 kf hdj;have hon1:=HT1.out;obtain ⟨_,_,hon1,_⟩:=hon1;have q1:=HSC.out w1 hon1;have HON1:=Lib.hid hon1;clear hon1))
   go_wp2_with fail
   go_meet
   exact ⟨by rw [HEQ.out];simp,by simpa [doesC,doesM] using HT2.out⟩
  by_cases e5:kd=5
  ·subst e5
   have HEQ:=Lib.hid (HTD.out.bgE HCF.out HNT.out)
   go_wp2_with fail
   have hop:=HT0.out.open_f H0.out
   obtain ⟨F1,Mf,Mx,hf,_,hmf,_,ho1,kf,_⟩:=hop
   have hdj:=dj_f hmf HML.out
   refine (syncf_any F1 Mf b c _ _ hf HC.out).mono ?_
   rintro e w1 ⟨rfl,hp⟩
   have HT1:=Lib.hid (kf (hp))
   clear hp hf hmf ho1 kf hdj
   have hon1:=HT1.out
   obtain ⟨_,_,hon1,_⟩:=hon1
   have q1:=HSC.out w1 hon1
   have HON1:=Lib.hid hon1
   clear hon1
   go_wp2_with fail
   have hop:=HT1.out.open_x H0.out
   obtain ⟨F1,Mf,Mx,_,hx,_,hmx,ho1,_,kx⟩:=hop
   have hdj:=dj_x hmx HG.out HZ0.out
   refine (rsync_any F1 Mx d s _ _ hx HS.out).mono ?_
   rintro e w2 ⟨rfl,hp⟩
   have HT2:=Lib.hid (kx hp)
   clear hp hx hmx ho1 kx hdj
   have hon2:=HT2.out
   obtain ⟨_,_,hon2,_⟩:=hon2
   have q2:=HSC.out w2 hon2
   clear hon2
   go_wp2_with fail
   go_meet
   exact ⟨by rw [HEQ.out];simp,by simpa [doesC,doesM] using HT2.out⟩
  by_cases e6:kd=6
  ·subst e6
   have HEQ:=Lib.hid (HTD.out.red HCF.out HNT.out pa)
   obtain ⟨Ff,Fx,Mf,Mx,hX,hM⟩:=H0.out
   have HX:=Lib.hid hX
   have HM:=Lib.hid hM
   have HLT:Hid (∀ k,Mx k→k<w0.heap.size):=hX.x.mlt
   clear hX hM
   go_wp2_with fail
   refine (read_any Ff Mf b c _ pa w0 HX.out.f HC.out (Nat.le_trans HPA.out (by decide))).mono ?_
   rintro e w1 ⟨u1,v1,M1,rfl,rfl,h1,h2,h3,hby⟩
   obtain ⟨A1,c1,rfl,_,_⟩:=hby.slice
   have HP:Hid (FcPost Ff Mf w0 b (bgC c).c w1):=⟨M1,h1,h2,h3⟩
   have HX1:=Lib.hid (HX.out.later HP.out)
   have HB1:Hid (∀ k,grow Ff w0 w1 M1 k→¬ Mx k):=fun k hk hm=>by
    rcases hk with hk | ⟨g1,_,_⟩
    ·exact HX.out.fx k hk hm
    ·have:=HLT.out k hm;omega
   have HZ1:Hid (w0.heap.size≤w1.heap.size):=h2.size
   have q1:=HSC.out w1 (h2.more (fun k _ hk=>(HM.out k).2 (.inl hk)))
   have HBY:=Lib.hid hby
   clear h1 h2 h3 hby q0
   obtain ⟨n7,hn7⟩:∃ n7,redE c pa=n7:=⟨_,rfl⟩
   obtain ⟨l7,hl7⟩:∃ l7,(redF c pa).data.length=l7:=⟨_,rfl⟩
   obtain ⟨m7,hm7⟩:∃ m7,(redF c pa).mode=m7:=⟨_,rfl⟩
   obtain ⟨t7,ht7⟩:∃ t7,(redF c pa).time=t7:=⟨_,rfl⟩
   rw [hl7] at HBY
   rw [hn7,hl7,hm7,ht7]
   have HL7:=Lib.hid hl7
   have HN7:=Lib.hid hn7
   have HM7:=Lib.hid hm7
   have HT7:=Lib.hid ht7
   clear hn7 hl7 hm7 ht7
   have hba:=(Below.refl w1.heap.size w1).alloc (Nat.le_refl _) (.cells #[.int .i64 m7,.slice A1 l7 c1,.int .i64 t7] 91)
   have HBA:=Lib.hid hba
   have hqa:=(Only.of_below (M:=M) hba)
   have qa:=HSC.out (w1.alloc (.cells #[.int .i64 m7,.slice A1 l7 c1,.int .i64 t7] 91)) (by obtain ⟨_,_,h9,_⟩:=HP.out;exact (h9.more (fun k _ hk=>(HM.out k).2 (.inl hk))).then_below hba)
   clear hba hqa
   go_wp2_with fail
   refine (rread_any Fx Mx d s _ pa _ (HX1.out.below HBA.out) HS.out (Nat.le_trans HPA.out (by decide))).mono ?_
   rintro e w2 ⟨u2,v2,M2,rfl,rfl,g1,g2,g3,hby2⟩
   obtain ⟨A2,c2,rfl,_,_⟩:=hby2.slice
   have HT:=Lib.hid (twoq_both HX.out HM.out HP.out (FsPost.of_below HBA.out ⟨M2,g1,g2,g3⟩))
   have hbk1:Blk w2 w1.heap.size 91 #[.int .i64 m7,.slice A1 l7 c1,.int .i64 t7]:=g2.blk (Blk.new _ _ _) (fun hm=>by have:=HLT.out _ hm;have:=HZ1.out;omega)
   have hv1:SlV w2 (.slice A1 l7 c1) ((redF c pa).data.map bv):=((HBY.out.only (Only.of_below (M:=fun _=>False) HBA.out) (fun _ _=>id)).only g2 HB1.out).slv
   have hv2:=hby2.slv
   clear g1 g2 g3 hby2
   obtain ⟨n8,hn8⟩:∃ n8,readE s pa=n8:=⟨_,rfl⟩
   obtain ⟨l8,hl8⟩:∃ l8,(readF s pa).data.length=l8:=⟨_,rfl⟩
   obtain ⟨m8,hm8⟩:∃ m8,(readF s pa).mode=m8:=⟨_,rfl⟩
   obtain ⟨t8,ht8⟩:∃ t8,(readF s pa).time=t8:=⟨_,rfl⟩
   rw [hl8] at hv2
   rw [hn8,hl8,hm8,ht8]
   have HL8:=Lib.hid hl8
   have e78:n7=n8:=by rw [← HN7.out,← hn8];exact HEQ.out.1
   have em8:m7=m8:=by rw [← HM7.out,← hm8,HEQ.out.2]
   have et8:t7=t8:=by rw [← HT7.out,← ht8,HEQ.out.2]
   subst e78 em8 et8
   clear hn8 hl8 hm8 ht8
   have hbb:=(Below.refl w2.heap.size w2).alloc (Nat.le_refl _) (.cells #[.int .i64 m7,.slice A2 l8 c2,.int .i64 t7] 78)
   have hbk2:=hbk1.alloc (.cells #[.int .i64 m7,.slice A2 l8 c2,.int .i64 t7] 78)
   have y0:=hbk2.cell 0
   have y1:=hbk2.cell 1
   have y2:=hbk2.cell 2
   have HV1:=Lib.hid (hv1.below hbb)
   have HV2:=Lib.hid (hv2.below hbb)
   have HBB:=Lib.hid hbb
   clear hbk1 hbk2 hv1 hv2 hbb
   go_wp2_with fail
   refine (file_any m7 t7 m7 t7 A1 A2 l7 l8 c1 c2 _ _ _ HL7.out HL8.out HV1.out HV2.out).mono ?_
   rintro e w3 ⟨rfl,hb3⟩
   have HT3:=Lib.hid (TwoQ.then_below (TwoQ.then_below HT.out HBB.out) hb3)
   clear hb3
   obtain ⟨t,ht⟩:∃ t,(decide (m7=m7)&&(decide (t7=t7)&&((redF c pa).data==(readF s pa).data)))=t:=⟨_,rfl⟩
   rw [ht]
   obtain rfl:t=true:=by
    rw [← ht,HEQ.out.2]
    simp
   clear ht
   go_wp2_with fail
   go_meet
   exact ⟨by simp,by simpa [doesC,doesM] using HT3.out⟩
  by_cases e7:kd=7
  ·subst e7
   have HEQ:=Lib.hid (HTD.out.lis HCF.out HNT.out pa)
   obtain ⟨Ff,Fx,Mf,Mx,hX,hM⟩:=H0.out
   have HX:=Lib.hid hX
   have HM:=Lib.hid hM
   have HLT:Hid (∀ k,Mx k→k<w0.heap.size):=hX.x.mlt
   clear hX hM
   go_wp2_with fail
   refine (list_any Ff Mf b c _ pa w0 HX.out.f HC.out HPA.out).mono ?_
   rintro e w1 ⟨v1,wa,rfl,hp,hb,hov⟩
   obtain ⟨A1,c1,rfl,_,_,_⟩:=hov.slv
   have HP:=Lib.hid (hp.then_below hb)
   have HX1:=Lib.hid (HX.out.later HP.out)
   have HOV:=Lib.hid hov
   have hza:w0.heap.size≤wa.heap.size:=by obtain ⟨_,_,h9,_⟩:=hp;exact h9.size
   have HZA:=Lib.hid hza
   have q1:=HSC.out w1 (by obtain ⟨_,_,h9,_⟩:=HP.out;exact h9.more (fun k _ hk=>(HM.out k).2 (.inl hk)))
   clear hp hb hov hza q0
   obtain ⟨n7,hn7⟩:∃ n7,lisE c pa=n7:=⟨_,rfl⟩
   obtain ⟨l7,hl7⟩:∃ l7,(List.map sv (List.map str (lisO c pa))).length=l7:=⟨_,rfl⟩
   rw [hl7] at HOV
   rw [hn7,hl7]
   have HN7:=Lib.hid hn7
   clear hn7 hl7
   go_wp2_with fail
   refine (rlist_any Fx Mx d s _ pa w1 HX1.out HS.out (Nat.le_trans HPA.out (by decide))).mono ?_
   rintro e w2 ⟨v2,wb,rfl,hq,hb2,hov2⟩
   obtain ⟨A2,c2,rfl,_,_,_⟩:=hov2.slv
   have HT:=Lib.hid (twoq_both HX.out HM.out HP.out (hq.then_below hb2))
   have HV1:Hid (SlV w2 (.slice A1 l7 c1) ((lisO c pa).map str |>.map sv)):=by
    obtain ⟨_,_,h9,_⟩:=hq
    exact ((h9.then_below hb2).own HOV.out (fun k hk hm=>by have h8:=(HOV.out.lt k hk).1;have:=HLT.out k hm;have:=HZA.out;omega)).slv
   have HV2:=Lib.hid hov2.slv
   clear hq hb2 hov2
   obtain ⟨n8,hn8⟩:∃ n8,listE s pa=n8:=⟨_,rfl⟩
   obtain ⟨l8,hl8⟩:∃ l8,(List.map sv (List.map str (listO s pa))).length=l8:=⟨_,rfl⟩
   rw [hl8] at HV2
   rw [hn8,hl8]
   have e78:n7=n8:=by rw [← HN7.out,← hn8];exact HEQ.out.1
   subst e78
   clear hn8 hl8
   go_wp2_with fail
   refine (texts_any _ _ _ _ w2 HV1.out HV2.out).mono ?_
   rintro e w3 ⟨t,rfl,hiff,hb3⟩
   obtain rfl:t=true:=hiff.2 (by rw [HEQ.out.2])
   clear hiff
   have HT3:=Lib.hid (TwoQ.then_below HT.out hb3)
   clear hb3
   go_wp2_with fail
   go_meet
   exact ⟨by simp,by simpa [doesC,doesM] using HT3.out⟩
  by_cases e8:kd=8
  ·subst e8
   have HEQ:=Lib.hid ((HTD.out.user (HCF.out.small (Nat.le_trans HI7.out (by decide))) pa mo da).1)
   go_upto_region 25 with (fail)
   go_region_held3 (fun W=>W.cell? ⟨w.heap.size,1,none⟩=some (.int .i64 mo)∧W.cell? ⟨w.heap.size,2,none⟩=some (.int .i64 ke)∧W.cell? ⟨w.heap.size,3,none⟩=some (.int .i64 tn)∧W.cell? ⟨w.heap.size,4,none⟩=some (.string (str pa))∧W.cell? ⟨w.heap.size,5,none⟩=some (.string (str de))∧W.cell? ⟨w.heap.size,6,none⟩=some (.slice dA dl dc))
    (first | exact q2.2 | exact q1.2 | exact q0.2)
    (first
     | (go_at_call 56;have hop:=HT1.out.open_x H0.out;obtain ⟨F1,Mf,Mx,_,hx,_,hmx,ho1,_,kx⟩:=hop;have hdj:=dj_x hmx HG.out HZ0.out;refine (ruserw_fit pa mo (.slice dA dl dc) da hx HSM.out.fits HI7.out (HD0.out.only HON1.out (fun k hk=>HG.out k hk.1)) hdj (Nat.le_trans HPA.out (by decide))).mono ?_;rintro e w2 ⟨rfl,hp⟩;have HT2:=Lib.hid (kx hp);clear hp hx hmx ho1 kx hdj;have hon2:=HT2.out;obtain ⟨_,_,hon2,_⟩:=hon2;have q2:=HSC.out w2 hon2;clear hon2)
     | (go_at_call 55;have hop:=HT0.out.open_f H0.out;obtain ⟨F1,Mf,Mx,hf,_,hmf,_,ho1,kf,_⟩:=hop;have hdj:=dj_f hmf HML.out;refine (userw_any F1 Mf b c _ pa mo (.slice iA dl ic) da _ _ hf.drew_ HCF.out HI7.out HIN.out.drew_ hdj (Nat.le_trans HPA.out (by decide))).mono ?_;rintro e w1 ⟨rfl,hp⟩;have HT1:=Lib.hid (kf (FcPost.of_drew hp));clear hp hf hmf ho1 kf hdj;have hon1:=HT1.out;obtain ⟨_,_,hon1,_⟩:=hon1;have q1:=HSC.out w1 hon1;have HON1:=Lib.hid hon1;clear hon1))
   go_wp2_with fail
   go_meet
   exact ⟨by rw [HEQ.out];simp,by simpa [doesC,doesM] using HT2.out⟩
  by_cases e9:kd=9
  ·subst e9
   have HEQ:=Lib.hid ((HTD.out.user' pa).1)
   go_upto_region 27 with (fail)
   go_region_held3 (fun W=>W.cell? ⟨w.heap.size,1,none⟩=some (.int .i64 mo)∧W.cell? ⟨w.heap.size,2,none⟩=some (.int .i64 ke)∧W.cell? ⟨w.heap.size,3,none⟩=some (.int .i64 tn)∧W.cell? ⟨w.heap.size,4,none⟩=some (.string (str pa))∧W.cell? ⟨w.heap.size,5,none⟩=some (.string (str de))∧W.cell? ⟨w.heap.size,6,none⟩=some (.slice dA dl dc))
    (first | exact q2.2 | exact q1.2 | exact q0.2)
    (first
     | (go_at_call 58;have hop:=HT1.out.open_x H0.out;obtain ⟨F1,Mf,Mx,_,hx,_,hmx,ho1,_,kx⟩:=hop;have hdj:=dj_x hmx HG.out HZ0.out;refine (ruserr_fit pa hx HSM.out.fits HI7.out (Nat.le_trans HPA.out (by decide))).mono ?_;rintro e w2 ⟨rfl,hp⟩;have HT2:=Lib.hid (kx hp);clear hp hx hmx ho1 kx hdj;have hon2:=HT2.out;obtain ⟨_,_,hon2,_⟩:=hon2;have q2:=HSC.out w2 hon2;clear hon2)
     | (go_at_call 57;have hop:=HT0.out.open_f H0.out;obtain ⟨F1,Mf,Mx,hf,_,hmf,_,ho1,kf,_⟩:=hop;have hdj:=dj_f hmf HML.out;refine (userr_any F1 Mf b c _ pa _ hf.drew_ HCF.out HI7.out (Nat.le_trans HPA.out (by decide))).mono ?_;rintro e w1 ⟨rfl,hp⟩;have HT1:=Lib.hid (kf (FcPost.of_drew hp));clear hp hf hmf ho1 kf hdj;have hon1:=HT1.out;obtain ⟨_,_,hon1,_⟩:=hon1;have q1:=HSC.out w1 hon1;have HON1:=Lib.hid hon1;clear hon1))
   go_wp2_with fail
   go_meet
   exact ⟨by rw [HEQ.out];simp,by simpa [doesC,doesM] using HT2.out⟩
  by_cases e10:kd=10
  ·subst e10
   go_wp2_with fail
   have hop:=HT0.out.open_f H0.out
   obtain ⟨F1,Mf,Mx,hf,_,hmf,_,ho1,kf,_⟩:=hop
   have hdj:=dj_f hmf HML.out
   refine (crash_any F1 Mf b c ke tn _ hf (HCF.out.small (Nat.le_trans HI7.out (by decide)))).mono ?_
   rintro e w1 ⟨rfl,hp⟩
   have HT1:=Lib.hid (kf (hp))
   clear hp hf hmf ho1 kf hdj
   have hon1:=HT1.out
   obtain ⟨_,_,hon1,_⟩:=hon1
   have q1:=HSC.out w1 hon1
   have HON1:=Lib.hid hon1
   clear hon1
   go_wp2_with fail
   have hop:=HT1.out.open_x H0.out
   obtain ⟨F1,Mf,Mx,_,hx,_,hmx,ho1,_,kx⟩:=hop
   have hdj:=dj_x hmx HG.out HZ0.out
   refine (rcrash_fit ke tn hx HSM.out.fits HI7.out).mono ?_
   rintro e w2 ⟨rfl,hp⟩
   have HT2:=Lib.hid (kx hp)
   clear hp hx hmx ho1 kx hdj
   have hon2:=HT2.out
   obtain ⟨_,_,hon2,_⟩:=hon2
   have q2:=HSC.out w2 hon2
   clear hon2
   go_wp2_with fail
   go_meet
   exact ⟨rfl,by simpa [doesC,doesM] using HT2.out⟩
  by_cases e11:kd=11
  ·subst e11
   go_wp2_with fail
   have hop:=HT0.out.open_f H0.out
   obtain ⟨F1,Mf,Mx,hf,_,hmf,_,ho1,kf,_⟩:=hop
   have hdj:=dj_f hmf HML.out
   refine (reboot_any hf).mono ?_
   rintro e w1 ⟨rfl,hp⟩
   have HT1:=Lib.hid (kf (hp))
   clear hp hf hmf ho1 kf hdj
   have hon1:=HT1.out
   obtain ⟨_,_,hon1,_⟩:=hon1
   have q1:=HSC.out w1 hon1
   have HON1:=Lib.hid hon1
   clear hon1
   go_wp2_with fail
   have hop:=HT1.out.open_x H0.out
   obtain ⟨F1,Mf,Mx,_,hx,_,hmx,ho1,_,kx⟩:=hop
   have hdj:=dj_x hmx HG.out HZ0.out
   refine (rreboot_any hx).mono ?_
   rintro e w2 ⟨rfl,hp⟩
   have HT2:=Lib.hid (kx hp)
   clear hp hx hmx ho1 kx hdj
   have hon2:=HT2.out
   obtain ⟨_,_,hon2,_⟩:=hon2
   have q2:=HSC.out w2 hon2
   clear hon2
   go_wp2_with fail
   go_meet
   exact ⟨rfl,by simpa [doesC,doesM] using HT2.out⟩
  exact absurd hk (by omega)
 case rest =>
  obtain ⟨rfl,hp⟩:=hcut
  have HP:=Lib.hid hp
  obtain ⟨_,_,ho,_⟩:=hp
  have qc:=HSC.out wc ho
  have HI1:Hid (SlV wc (.slice iA dl ic) (da.map bv)):=(HIN.out.only ho (fun k hk hm=>by have:=HML.out k hm;omega)).slv
  have HD1:Hid (SlV wc (.slice dA dl dc) (da.map bv)):=(HD0.out.only ho (fun k hk=>HG.out k hk.1)).slv
  have HO1:Hid (OwnV 5 wc (w.heap.size+1) (.slice iA dl ic) (da.map bv)):=by
   have h1:=ho.own HOWN.out (fun k hk hm=>by
    have h2:=(HOWN.out.lt k hk).1
    have:=HML.out k hm
    simp at h2
    omega)
   exact h1.base (by simp)
  have hsz:=ho.size
  have HSZ:=Lib.hid hsz
  clear ho hsz q0
  go_wp2_with fail
  refine (tbytes_any iA dA dl dl ic dc da da wc HDL.out HDL.out HI1.out HD1.out true (by simp)).mono ?_
  rintro e wb ⟨rfl,rfl⟩
  go_wp2_with fail
  have HDM:Hid (dl≤140737488351232):=by have:=HO.out.data;rw [← HDL.out];exact this
  have hdm:=HDM.out
  go_loopw [17] (fun j wr=>∃ k:Nat,k≤dl∧j=.int .i64 k∧Only (fun g=>(Value.slice iA dl ic).ownBlock=some g) wc wr∧∃ vs:List Value,vs.length=dl∧(∀ u∈vs,∃ n:Int,u=.int .u8 n)∧OwnV 5 wr (w.heap.size+1) (.slice iA dl ic) vs) (fun j _=>dl - (intOf j).toNat)
  case atStart=>exact ⟨0,Nat.zero_le _,rfl,Only.refl _ _,da.map bv,by rw [List.length_map,HDL.out],fun u hu=>by
   obtain ⟨x,_,rfl⟩:=List.mem_map.1 hu
   exact ⟨_,rfl⟩,HO1.out⟩
  case round =>
   obtain ⟨k,hk,rfl,hon,vs,hvl,hvi,hov⟩:=hrel
   by_cases hlt:k<dl
   ·have hkv:k<vs.length:=by omega
    obtain ⟨g,rfl⟩:∃ g,iA=some ⟨g,0,none⟩:=by
     rcases hov.blk with ⟨_,he⟩ | ⟨g,c9,cur,he,_⟩
     ·rw [he] at hvl;simp at hvl;omega
     ·injection he with e1;exact ⟨g,e1⟩
    obtain ⟨n,hn⟩:=hvi vs[k] (List.getElem_mem hkv)
    obtain ⟨x1,x2⟩:=hov.cellAt k vs[k] (List.getElem?_eq_getElem hkv)
    rw [hn] at x1
    have HON:=Lib.hid hon
    have HVI:=Lib.hid hvi
    have HOV:=Lib.hid hov
    have HVL:=Lib.hid hvl
    have p1:(k:Int)<(dl:Int):=by omega
    clear hon hvi hov hvl hn
    go_wp2_with fail
    go_roundw
    case rel=>exact ⟨k+1,by omega,by go_num,HON.out.set_ (.inl rfl) _,vs.set k _,by rw [List.length_set];exact HVL.out,fun u hu=>by
     rcases List.mem_or_eq_of_mem_set hu with h9 | h9
     ·exact HVI.out u h9
     ·exact ⟨_,h9⟩,HOV.out.setAt k _⟩
    case measure=>simp [intOf];omega
   ·obtain rfl:k=dl:=by omega
    have HON:=Lib.hid hon
    clear hon hov hvi
    go_wp2_with fail
    go_ret
    refine ⟨rfl,TwoQ.around H.out HB0.out HP.out HON.out (fun g hg=>?_)⟩
    have h2:=HOWN.out.lt g hg
    simp at h2
    omega
end Go.Proofs.YtlkolcokjmlmjaaGreat.Tx
