/- Texts put together: VGs6, VGs7, VGs8. -/
import Derived.Test.YtlkolcokjmlmjaaGreatQv18
namespace Go.Proofs.YtlkolcokjmlmjaaGreat.Tx
open Go.RowKit Go.Maps Go.Proofs.YtlkolcokjmlmjaaGreat.Sh
section
variable {F F' M:Nat→Prop} {w w1 w' wf:World} {b:Nat} {c c':CSt}
theorem FcAt.wide (h:FcAt F w1 b c M) (hF:∀ k,F' k→F k∨(w.heap.size≤k∧k<w1.heap.size)) (hF0:∀ k,F k→F' k) (hM:∀ k,M k→k<w.heap.size):FcAt F' w1 b c M:=by
 obtain ⟨x,h1,h2⟩:=h
 refine ⟨x,h1.mono hF0 (fun k hk hm=>?_) (fun k hk=>?_),h2⟩
 ·rcases hF k hk with h | ⟨h,_⟩
  ·exact h1.self k h hm
  ·have:=hM k ((h2 k).2 hm);omega
 ·rcases hF k hk with h | ⟨_,h⟩
  ·exact h1.low k h
  ·exact h
theorem FcPost.wide (hb:Below w.heap.size w w1) (h:FcPost F' M w1 b c' w') (hF:∀ k,F' k→F k∨(w.heap.size≤k∧k<w1.heap.size)) (hF0:∀ k,F k→F' k) (hM:∀ k,M k→k<w.heap.size) (hFlow:∀ k,F k→k<w.heap.size):FcPost F M w b c' w':=by
 obtain ⟨M2,⟨y,h1,h2⟩,h3,h4⟩:=h
 have hz:=hb.size
 have hz3:=h3.size
 refine ⟨M2,⟨y,h1.mono (F':=grow F w w' M2) (fun k hk=>?_) (fun k hk hm=>?_) (fun k hk=>?_),h2⟩,(Only.of_below hb).trans h3 (fun _ hk=>.inl hk),fun k hk=>(h4 k hk).imp id (fun h=>by omega)⟩
 ·rcases hk with hk | ⟨g1,g2,g3⟩
  ·rcases hF k hk with h | ⟨g1,g2⟩
   ·exact .inl h
   ·refine .inr ⟨g1,by omega,fun hm=>?_⟩
    rcases h4 k hm with h5 | h5
    ·have:=hM k h5;omega
    ·omega
  ·exact .inr ⟨by omega,g2,g3⟩
 ·rcases hk with hk | ⟨_,_,g3⟩
  ·exact h1.self k (.inl (hF0 k hk)) hm
  ·exact g3 ((h2 k).2 hm)
 ·rcases hk with hk | ⟨_,g2,_⟩
  ·have:=hFlow k hk;omega
  ·exact g2
theorem FcAt.lt (h:FcAt F w b c M) (k:Nat) (hk:M k):k<w.heap.size:=by
 obtain ⟨x,h1,h2⟩:=h
 exact h1.lt k ((h2 k).1 hk)
theorem FcAt.low (h:FcAt F w b c M) (k:Nat) (hk:F k):k<w.heap.size:=by
 obtain ⟨x,h1,_⟩:=h
 exact h1.low k hk
end
def wrE (c:CSt) (p:List UInt8) (mode:Int) (data:List UInt8) (room:Int) (create:Bool):Int :=
 if pathB p=false then 6
 else if mode<1∨3<mode then 1
 else if 20000<data.length then 3
 else if create=true∧peekB c.here p=true then 8
 else if mayC c.here p []=false then 9
 else if room<(usedM c.here:Int) - ((peekF c.here p).data.length:Int)+(data.length:Int) then 10
 else 0
def wrC (c:CSt) (p:List UInt8) (mode:Int) (data:List UInt8) (room:Int) (create:Bool):CSt :=
 if wrE c p mode data room create=0 then doC c ⟨[],p,⟨mode,data,c.time+1⟩⟩ else c
theorem wr_no {c:CSt} {p:List UInt8} {mode:Int} {data:List UInt8} {room:Int} {create:Bool} {n:Int} (h:wrE c p mode data room create=n) (hn:n≠0):wrC c p mode data room create=c:=by
 unfold wrC
 rw [if_neg (by rw [h];exact hn)]
set_option maxRecDepth 100000 in
set_option maxHeartbeats 9600000 in
theorem write_any (F M : Nat → Prop) (b : Nat) (c : CSt) (p : List UInt8) (mode : Int) (dv : Value) (data : List UInt8) (room : Int) (create : Bool) (w : World) (h : FcAt F w b c M) (hs : CSmall c) (hdv : SlV w dv (data.map bv)) (hp : p.length ≤ 1000000) :
  Calls Tryz.prog 92 #[.pointer (some ⟨b,0,none⟩),.string (str p),.int .i64 mode,dv,.int .i64 room,.bool create] w fun e w'=>e=.returned (.int .i64 (wrE c p mode data room create))∧FcPost F M w b (wrC c p mode data room create) w':=by
 have HAT:=Lib.hid h
 have HS:=Lib.hid hs
 obtain ⟨dA,dc,rfl,hdc,hdm,_⟩:=hdv.len
 rw [List.length_map] at hdc hdv ⊢
 obtain ⟨n,hn⟩:∃ n,data.length=n:=⟨_,rfl⟩
 rw [hn] at hdc hdv ⊢
 have HN:=Lib.hid hn
 have HDV:=Lib.hid hdv
 obtain ⟨x,hX,hM⟩:=h
 have c6:w.cell? ⟨b,6,none⟩=some (.pointer (some ⟨x.here,0,none⟩)):=hX.blk.cell 6
 have c0:w.cell? ⟨x.here,0,none⟩=some (.map (some x.hf)):=hX.here.blk.cell 0
 obtain ⟨D,hown,hfo⟩:=hX.here.files
 obtain ⟨oA,oc,_,hlook,hhas⟩:=look_peek hfo hX.here.ord p
 obtain ⟨f,hf⟩:∃ f,peekF c.here p=f:=⟨_,rfl⟩
 obtain ⟨t,ht⟩:∃ t,peekB c.here p=t:=⟨_,rfl⟩
 have hol:=peek_short hs.hrow p
 rw [hf] at hlook hol
 rw [ht] at hhas
 obtain ⟨ol,hol'⟩:∃ ol,f.data.length=ol:=⟨_,rfl⟩
 rw [hol'] at hlook hol
 have HF:=Lib.hid hf
 have HT:=Lib.hid ht
 have HOL:=Lib.hid hol'
 have HOWN:=Lib.hid hown
 have HLOOK:=Lib.hid hlook
 have HKEY:=Lib.hid (key_str p hp)
 have HX:=Lib.hid hX
 have HMM:=Lib.hid hM
 obtain ⟨we,hwe⟩:∃ we,wrE c p mode data room create=we:=⟨_,rfl⟩
 have HWE:=Lib.hid hwe
 obtain ⟨wa,hwa⟩:∃ wa,wa=w.alloc (.cells #[.int .i64 f.mode,.slice oA ol oc,.int .i64 f.time] 91):=⟨_,rfl⟩
 have hBa:Below w.heap.size w wa:=by rw [hwa];exact (Below.refl _ _).alloc (Nat.le_refl _) _
 have hba:Blk wa w.heap.size 91 #[.int .i64 f.mode,.slice oA ol oc,.int .i64 f.time]:=by rw [hwa];exact Blk.new _ _ _
 have HBA:=Lib.hid hBa
 have HBLK:=Lib.hid hba
 have hzw:w.heap.size<wa.heap.size:=hba.lt
 have HSTAY:Hid (∀ w',Below w.heap.size w w'→FcPost F M w b c w'):=fun w' hb=>FcPost.of_below hb (FcPost.refl (HAT.out.below hb))
 have HNO:Hid (∀ k,we=k→k≠0→∀ w',Below w.heap.size w w'→FcPost F M w b (wrC c p mode data room create) w'):=fun k hk hk0 w' hb=>by
  rw [wr_no (HWE.out.trans hk) hk0]
  exact HSTAY.out w' hb
 clear hs hn hdv hX hM hown hfo hlook hf ht hol' hwe hBa hba
 obtain ⟨t1,ht1⟩:∃ t1,pathB p=t1:=⟨_,rfl⟩
 have HT1:=Lib.hid ht1
 clear ht1
 rw [HWE.out]
 go_enter Tryz.func92,Tryz.ntmps92
 go_upto_region 2 with (first | fail | (at_lookup;refine wpList_lookup_own_ok _ rfl _ _ 112 rfl 9 91 lawS Tryz.underlying112 hv (zeroF _) (.held zeroFile) [] rfl x.hf _ D rfl (by exact HOWN.out) _ (.string p) rfl (by exact HKEY.out) ?_;intro v ps hv';obtain rfl:=HLOOK.out v ps hv';rw [hhas];clear hv'))
 rw [← hwa]
 clear hwa c6 c0
 go_wp2_with fail
 refine (npath_any p _ hp).mono ?_
 rintro e w2 ⟨rfl,hb2⟩
 rw [HT1.out]
 have HB2:=Lib.hid (HBA.out.trans (hb2.mono (Nat.le_of_lt hzw)))
 have hbk2:=HBLK.out.below hb2 hzw
 have HBK2:=Lib.hid hbk2
 clear hb2 hbk2
 cases t1 with
 | false =>
  have HE:Hid (we=6):=by unfold Hid;rw [← HWE.out];unfold wrE;rw [if_pos HT1.out]
  go_wp2_with fail
  go_ret
  exact ⟨by rw [HE.out];rfl,HNO.out 6 HE.out (by decide) _ HB2.out⟩
 | true =>
  by_cases hmo:mode<1∨3<mode
  ·have HE:Hid (we=1):=by unfold Hid;rw [← HWE.out];unfold wrE;rw [if_neg (by rw [HT1.out];decide),if_pos hmo]
   rcases hmo with hm | hm
   ·go_wp2_with fail
    go_ret
    exact ⟨by rw [HE.out];rfl,HNO.out 1 HE.out (by decide) _ HB2.out⟩
   ·have hm2:¬ mode<1:=by omega
    go_wp2_with fail
    go_ret
    exact ⟨by rw [HE.out];rfl,HNO.out 1 HE.out (by decide) _ HB2.out⟩
  ·have m1:¬ mode<1:=fun h=>hmo (.inl h)
   have m3:¬ 3<mode:=fun h=>hmo (.inr h)
   have HMO:=Lib.hid hmo
   clear hmo
   by_cases hl:20000<n
   ·have HE:Hid (we=3):=by unfold Hid;rw [← HWE.out];unfold wrE;rw [if_neg (by rw [HT1.out];decide),if_neg HMO.out,if_pos (by rw [HN.out];exact hl)]
    have l1:(20000:Int)<(n:Int):=by omega
    go_wp2_with fail
    go_ret
    exact ⟨by rw [HE.out];rfl,HNO.out 3 HE.out (by decide) _ HB2.out⟩
   ·have l1:¬ (20000:Int)<(n:Int):=by omega
    have HLN:Hid (¬ 20000<data.length):=by unfold Hid;rw [HN.out];exact hl
    by_cases hct:create=true∧t=true
    ·obtain ⟨rfl,rfl⟩:=hct
     have HE:Hid (we=8):=by unfold Hid;rw [← HWE.out];unfold wrE;rw [if_neg (by rw [HT1.out];decide),if_neg HMO.out,if_neg HLN.out,if_pos ⟨rfl,HT.out⟩]
     go_wp2_with fail
     go_ret
     exact ⟨by rw [HE.out];rfl,HNO.out 8 HE.out (by decide) _ HB2.out⟩
    ·have HCT:Hid (¬ (create=true∧peekB c.here p=true)):=by unfold Hid;rw [HT.out];exact hct
     have hX2:=HX.out.below HB2.out
     have c6:w2.cell? ⟨b,6,none⟩=some (.pointer (some ⟨x.here,0,none⟩)):=hX2.blk.cell 6
     have HMAY:Hid (Calls Tryz.prog 127 #[.pointer (some ⟨x.here,0,none⟩),.string (str p),.string ⟨#[]⟩] w2 fun e w'=>e=.returned (.bool (mayC c.here p []))∧Below w2.heap.size w2 w'):=tmay_any F x.here x.hf x.hu c.here p [] w2 hX2.here hp (Nat.zero_le _) (by have:=HS.out.here;omega)
     obtain ⟨my,hmy⟩:∃ my,mayC c.here p []=my:=⟨_,rfl⟩
     rw [hmy] at HMAY
     have HMY:=Lib.hid hmy
     clear hX2 hmy
     go_upto_region 8 with (fail)
     go_cut [42] (fun v wx=>v=.bool false∧w2=wx)
     case first =>
      cases create with
      | false =>
       go_wp2_with fail
       go_meet
       exact ⟨rfl,rfl⟩
      | true =>
       cases t with
       | true=>exact absurd ⟨rfl,rfl⟩ hct
       | false =>
        go_wp2_with fail
        go_meet
        exact ⟨rfl,rfl⟩
     case rest =>
      obtain ⟨rfl,rfl⟩:=hcut
      clear hct
      go_wp2_with fail
      refine HMAY.out.mono ?_
      rintro e w3 ⟨rfl,hb3⟩
      have HB3:=Lib.hid (HB2.out.trans (hb3.mono HB2.out.size))
      have hbk3:=HBK2.out.below hb3 HBK2.out.lt
      have HBK3:=Lib.hid hbk3
      clear hb3 hbk3 c6
      cases my with
      | false =>
       have HE:Hid (we=9):=by unfold Hid;rw [← HWE.out];unfold wrE;rw [if_neg (by rw [HT1.out];decide),if_neg HMO.out,if_neg HLN.out,if_neg HCT.out,if_pos HMY.out]
       go_wp2_with fail
       go_ret
       exact ⟨by rw [HE.out];rfl,HNO.out 9 HE.out (by decide) _ HB3.out⟩
      | true =>
       have hX3:=HX.out.below HB3.out
       obtain ⟨u,hu⟩:∃ u,usedM c.here=u:=⟨_,rfl⟩
       have hub:u≤400000000000:=by rw [← hu];exact HS.out.hused
       have c6:w3.cell? ⟨b,6,none⟩=some (.pointer (some ⟨x.here,0,none⟩)):=hX3.blk.cell 6
       have c2:w3.cell? ⟨x.here,2,none⟩=some (.int .i64 u):=by rw [← hu];exact hX3.here.blk.cell 2
       have e1:w3.cell? ⟨w.heap.size,1,none⟩=some (.slice oA ol oc):=HBK3.out.cell 1
       have u0:(0:Int)≤(u:Int):=by omega
       have u1:(u:Int)≤400000000000:=by omega
       have o0:(0:Int)≤(ol:Int):=by omega
       have o1:(ol:Int)≤20000:=by omega
       have n0:(0:Int)≤(n:Int):=by omega
       have n1:(n:Int)≤20000:=by omega
       have HUU:=Lib.hid hu
       clear hX3 hu hub
       go_upto_region 12 with (fail)
       go_quiet (fail)
       generalize hwd:w3.drewN nq=wd
       have HB4:Hid (Below w.heap.size w wd):=by rw [← hwd];exact below_drewN HB3.out _
       clear hwd c6 c2 e1
       by_cases hr:room<(u:Int) - (ol:Int)+(n:Int)
       ·have HE:Hid (we=10):=by unfold Hid;rw [← HWE.out];unfold wrE;rw [if_neg (by rw [HT1.out];decide),if_neg HMO.out,if_neg HLN.out,if_neg HCT.out,if_neg (by rw [HMY.out];decide),if_pos (by rw [HF.out,HUU.out,HOL.out,HN.out];exact hr)]
        have r1:decide ((u:Int) - (ol:Int)+(n:Int) > room)=true:=decide_eq_true hr
        go_wp2_with fail
        go_ret
        exact ⟨by rw [HE.out];rfl,HNO.out 10 HE.out (by decide) _ HB4.out⟩
       ·have HE:Hid (we=0):=by unfold Hid;rw [← HWE.out];unfold wrE;rw [if_neg (by rw [HT1.out];decide),if_neg HMO.out,if_neg HLN.out,if_neg HCT.out,if_neg (by rw [HMY.out];decide),if_neg (by rw [HF.out,HUU.out,HOL.out,HN.out];exact hr)]
        have hX4:=HX.out.below HB4.out
        obtain ⟨tm,htm⟩:∃ tm,c.time=tm:=⟨_,rfl⟩
        have c2:wd.cell? ⟨b,2,none⟩=some (.int .i64 tm):=by rw [← htm];exact hX4.blk.cell 2
        have t0:0≤tm:=by rw [← htm];exact HS.out.time.1
        have t4:tm≤4000000000:=by rw [← htm];exact HS.out.time.2
        have HTM:=Lib.hid htm
        have HX4:=Lib.hid hX4
        have HCB:Hid (∀ W,Below wd.heap.size wd W→W.cell? ⟨b,2,none⟩=some (.int .i64 tm)):=fun W hW=>by
         have:=(HX4.out.below hW).blk.cell 2
         rw [← HTM.out]
         exact this
        have HDV4:Hid (SlV wd (.slice dA n dc) (data.map bv)):=HDV.out.below HB4.out
        have HDO:Hid (∀ W v,Below wd.heap.size wd W→OwnV 5 W wd.heap.size v (data.map bv)→Calls Tryz.prog 128 #[.pointer (some ⟨b,0,none⟩),.agg #[.string ⟨#[]⟩,.string (str p),.int .i64 mode,v,.int .i64 (tm+1)]] W fun e w'=>e=.returned (.tuple #[])∧FcPost F M w b (wrC c p mode data room create) w'):=fun W v hW hv=>by
         have hMlt:∀ k,M k→k<wd.heap.size:=fun k hk=>Nat.lt_of_lt_of_le (HAT.out.lt k hk) HB4.out.size
         have hFlt:∀ k,F k→k<wd.heap.size:=fun k hk=>Nat.lt_of_lt_of_le (HAT.out.low k hk) HB4.out.size
         have hat:FcAt (fun k=>F k∨(wd.heap.size≤k∧k<W.heap.size)) W b c M:=((HAT.out.below HB4.out).below hW).wide (w:=wd) (fun k hk=>hk) (fun k hk=>.inl hk) hMlt
         have hpl:p.length≤1000:=by
          have:=((pathB_iff p).1 HT1.out).1
          omega
         have hd:=do_any (fun k=>F k∨(wd.heap.size≤k∧k<W.heap.size)) M b c ⟨[],p,⟨mode,data,tm+1⟩⟩ v W hat hv.by_ (by have:=HS.out.time;omega) (by have:=HS.out.here;omega) (by have:=HS.out.both;omega) (by have:=HS.out.hused;omega) (Nat.zero_le _) hp (by show data.length≤_;have:=HN.out;omega)
         refine hd.mono ?_
         rintro e w' ⟨rfl,hpo⟩
         refine ⟨rfl,?_⟩
         have h2:=FcPost.of_below HB4.out (FcPost.wide hW hpo (fun k hk=>hk) (fun k hk=>.inl hk) hMlt hFlt)
         unfold wrC
         rw [if_pos (HWE.out.trans HE.out),HTM.out]
         exact h2
        have r1:decide ((u:Int) - (ol:Int)+(n:Int) > room)=false:=decide_eq_false hr
        clear htm hX4
        go_upto_region 14 with (fail)
        clear hr r1
        have hwr:IntKind.i64.wrap (tm+1)=tm+1:=wrap_ok (by omega) (by omega)
        go_region_with (first
         | (go_at_call 128;refine (HDO.out _ _ HB5.out HO5.out).mono ?_;rintro e w6 ⟨rfl,hp6⟩;have HP6:=Lib.hid hp6;clear hp6)
         | (go_at_call 106;refine (bclone_any _ data _ (by exact HDV4.out) (by rw [HN.out];omega)).mono ?_;rintro e w5 ⟨v5,rfl,ho5,hb5⟩;obtain ⟨A5,c5,rfl,_,_⟩:=ho5.length;rw [List.length_map,HN.out] at ho5 ⊢;have hb5':Below wd.heap.size wd w5:=⟨hb5.os,hb5.tape,hb5.output,hb5.size,hb5.block⟩;have HB5:=Lib.hid hb5';have HO5:=Lib.hid ho5;have c2n:w5.cell? ⟨b,2,none⟩=some (.int .i64 tm):=HCB.out _ hb5';clear ho5 hb5 hb5'))
        all_goals
         go_wp2_with fail
         go_ret
         exact ⟨by rw [HE.out];rfl,HP6.out⟩
end Go.Proofs.YtlkolcokjmlmjaaGreat.Tx
namespace Go.Proofs.YtlkolcokjmlmjaaGreat.Tx
open Go.RowKit Go.Maps Go.Proofs.YtlkolcokjmlmjaaGreat.Sh
def rmE (c:CSt) (p:List UInt8):Int:=if pathB p=false then 6 else if peekB c.here p=false then 7 else 0
def rmC (c:CSt) (p:List UInt8):CSt:=if rmE c p=0 then doC c ⟨p,[],⟨0,[],0⟩⟩ else c
theorem rm_no {c:CSt} {p:List UInt8} {n:Int} (h:rmE c p=n) (hn:n≠0):rmC c p=c:=by
 unfold rmC
 rw [if_neg (by rw [h];exact hn)]
set_option maxRecDepth 100000 in
set_option maxHeartbeats 6400000 in
theorem remove_any (F M : Nat → Prop) (b : Nat) (c : CSt) (p : List UInt8) (w : World) (h : FcAt F w b c M) (hs : CSmall c) (hp : p.length ≤ 1000000) :
  Calls Tryz.prog 98 #[.pointer (some ⟨b,0,none⟩),.string (str p)] w fun e w'=>e=.returned (.int .i64 (rmE c p))∧FcPost F M w b (rmC c p) w':=by
 have HAT:=Lib.hid h
 have HS:=Lib.hid hs
 obtain ⟨we,hwe⟩:∃ we,rmE c p=we:=⟨_,rfl⟩
 have HWE:=Lib.hid hwe
 obtain ⟨t1,ht1⟩:∃ t1,pathB p=t1:=⟨_,rfl⟩
 have HT1:=Lib.hid ht1
 have HSTAY:Hid (∀ w',Below w.heap.size w w'→FcPost F M w b c w'):=fun w' hb=>FcPost.of_below hb (FcPost.refl (HAT.out.below hb))
 have HNO:Hid (∀ k,we=k→k≠0→∀ w',Below w.heap.size w w'→FcPost F M w b (rmC c p) w'):=fun k hk hk0 w' hb=>by
  rw [rm_no (HWE.out.trans hk) hk0]
  exact HSTAY.out w' hb
 clear h hs hwe ht1
 rw [HWE.out]
 go_enter Tryz.func98,Tryz.ntmps98
 go_wp2_with fail
 refine (npath_any p _ hp).mono ?_
 rintro e w2 ⟨rfl,hb2⟩
 rw [HT1.out]
 have HB2:=Lib.hid hb2
 clear hb2
 cases t1 with
 | false =>
  have HE:Hid (we=6):=by unfold Hid;rw [← HWE.out];unfold rmE;rw [if_pos HT1.out]
  go_wp2_with fail
  go_ret
  exact ⟨by rw [HE.out];rfl,HNO.out 6 HE.out (by decide) _ HB2.out⟩
 | true =>
  obtain ⟨x,hX,hM⟩:=HAT.out.below HB2.out
  have c6:w2.cell? ⟨b,6,none⟩=some (.pointer (some ⟨x.here,0,none⟩)):=hX.blk.cell 6
  have c0:w2.cell? ⟨x.here,0,none⟩=some (.map (some x.hf)):=hX.here.blk.cell 0
  obtain ⟨D,hown,hfo⟩:=hX.here.files
  obtain ⟨oA,oc,_,hlook,hhas⟩:=look_peek hfo hX.here.ord p
  obtain ⟨f,hf⟩:∃ f,peekF c.here p=f:=⟨_,rfl⟩
  obtain ⟨t,ht⟩:∃ t,peekB c.here p=t:=⟨_,rfl⟩
  rw [hf] at hlook
  rw [ht] at hhas
  obtain ⟨ol,hol'⟩:∃ ol,f.data.length=ol:=⟨_,rfl⟩
  rw [hol'] at hlook
  have HT:=Lib.hid ht
  have HOWN:=Lib.hid hown
  have HLOOK:=Lib.hid hlook
  have HKEY:=Lib.hid (key_str p hp)
  have hBa:Below w2.heap.size w2 (w2.alloc (.cells #[.int .i64 f.mode,.slice oA ol oc,.int .i64 f.time] 91)):=(Below.refl _ _).alloc (Nat.le_refl _) _
  have HB3:=Lib.hid (HB2.out.trans (hBa.mono HB2.out.size))
  have hpl:p.length≤1000:=by
   have:=((pathB_iff p).1 HT1.out).1
   omega
  have HDO:Hid (rmE c p=0→Calls Tryz.prog 128 #[.pointer (some ⟨b,0,none⟩),.agg #[.string (str p),.string ⟨#[]⟩,.int .i64 0,.slice none 0 0,.int .i64 0]] (w2.alloc (.cells #[.int .i64 f.mode,.slice oA ol oc,.int .i64 f.time] 91)) fun e w'=>e=.returned (.tuple #[])∧FcPost F M w b (rmC c p) w'):=fun h0=>by
   have hd:=do_any F M b c ⟨p,[],⟨0,[],0⟩⟩ (.slice none 0 0) _ (HAT.out.below HB3.out) (By.nil_ _ _) (by have:=HS.out.time;omega) (by have:=HS.out.here;omega) (by have:=HS.out.both;omega) (by have:=HS.out.hused;omega) hp (Nat.zero_le _) (Nat.zero_le _)
   refine hd.mono ?_
   rintro e w' ⟨rfl,hpo⟩
   refine ⟨rfl,?_⟩
   have h2:=FcPost.of_below HB3.out hpo
   unfold rmC
   rw [if_pos h0]
   exact h2
  clear hX hM hown hfo hlook hf ht hol' hBa
  cases t with
  | false =>
   have HE:Hid (we=7):=by unfold Hid;rw [← HWE.out];unfold rmE;rw [if_neg (by rw [HT1.out];decide),if_pos HT.out]
   go_wp2_with (at_lookup;refine wpList_lookup_own_ok _ rfl _ _ 112 rfl 9 91 lawS Tryz.underlying112 hv (zeroF _) (.held zeroFile) [] rfl x.hf _ D rfl (by exact HOWN.out) _ (.string p) rfl (by exact HKEY.out) ?_;intro v ps hv';obtain rfl:=HLOOK.out v ps hv';rw [hhas];clear hv')
   go_ret
   exact ⟨by rw [HE.out];rfl,HNO.out 7 HE.out (by decide) _ HB3.out⟩
  | true =>
   have HE:Hid (we=0):=by unfold Hid;rw [← HWE.out];unfold rmE;rw [if_neg (by rw [HT1.out];decide),if_neg (by rw [HT.out];decide)]
   go_wp2_with (first | fail | (at_lookup;refine wpList_lookup_own_ok _ rfl _ _ 112 rfl 9 91 lawS Tryz.underlying112 hv (zeroF _) (.held zeroFile) [] rfl x.hf _ D rfl (by exact HOWN.out) _ (.string p) rfl (by exact HKEY.out) ?_;intro v ps hv';obtain rfl:=HLOOK.out v ps hv';rw [hhas];clear hv'))
   refine (HDO.out (HWE.out.trans HE.out)).mono ?_
   rintro e w6 ⟨rfl,hp6⟩
   have HP6:=Lib.hid hp6
   clear hp6
   go_wp2_with fail
   go_ret
   exact ⟨by rw [HE.out];rfl,HP6.out⟩
end Go.Proofs.YtlkolcokjmlmjaaGreat.Tx
namespace Go.Proofs.YtlkolcokjmlmjaaGreat.Tx
open Go.RowKit Go.Maps Go.Proofs.YtlkolcokjmlmjaaGreat.Sh
def mvE (c:CSt) (fr tt:List UInt8) (create:Bool):Int :=
 if pathB fr=false∨pathB tt=false then 6
 else if peekB c.here fr=false then 7
 else if create=true∧peekB c.here tt=true then 8
 else if tt=fr then 0
 else if mayC c.here tt fr=false then 9
 else 0
def mvC (c:CSt) (fr tt:List UInt8) (create:Bool):CSt:=if mvE c fr tt create=0∧tt≠fr then doC c ⟨fr,tt,peekF c.here fr⟩ else c
theorem mv_no {c:CSt} {fr tt:List UInt8} {create:Bool} {n:Int} (h:mvE c fr tt create=n) (hn:n≠0∨tt=fr):mvC c fr tt create=c:=by
 unfold mvC
 rw [if_neg]
 rintro ⟨h1,h2⟩
 rcases hn with hn | hn
 ·exact hn (h.symm.trans h1)
 ·exact h2 hn
set_option maxRecDepth 100000 in
set_option maxHeartbeats 9600000 in
theorem move_any (F M : Nat → Prop) (b : Nat) (c : CSt) (fr tt : List UInt8) (create : Bool) (w : World) (h : FcAt F w b c M) (hs : CSmall c) (hf : fr.length ≤ 1000000) (ht : tt.length ≤ 1000000) :
  Calls Tryz.prog 102 #[.pointer (some ⟨b,0,none⟩),.string (str fr),.string (str tt),.bool create] w fun e w'=>e=.returned (.int .i64 (mvE c fr tt create))∧FcPost F M w b (mvC c fr tt create) w':=by
 have HAT:=Lib.hid h
 have HS:=Lib.hid hs
 obtain ⟨we,hwe⟩:∃ we,mvE c fr tt create=we:=⟨_,rfl⟩
 have HWE:=Lib.hid hwe
 have HSTAY:Hid (∀ w',Below w.heap.size w w'→FcPost F M w b c w'):=fun w' hb=>FcPost.of_below hb (FcPost.refl (HAT.out.below hb))
 have HNO:Hid (∀ k,we=k→(k≠0∨tt=fr)→∀ w',Below w.heap.size w w'→FcPost F M w b (mvC c fr tt create) w'):=fun k hk hk0 w' hb=>by
  rw [mv_no (HWE.out.trans hk) hk0]
  exact HSTAY.out w' hb
 obtain ⟨x,hX,hM⟩:=h
 have hXF:=hX.low
 have c6:w.cell? ⟨b,6,none⟩=some (.pointer (some ⟨x.here,0,none⟩)):=hX.blk.cell 6
 have c0:w.cell? ⟨x.here,0,none⟩=some (.map (some x.hf)):=hX.here.blk.cell 0
 obtain ⟨D,hown,hfo⟩:=hX.here.files
 obtain ⟨fA,fc,hby,hlook,hhas⟩:=look_peek hfo hX.here.ord fr
 obtain ⟨tA,tc,_,hlook2,hhas2⟩:=look_peek hfo hX.here.ord tt
 obtain ⟨f,hff⟩:∃ f,peekF c.here fr=f:=⟨_,rfl⟩
 obtain ⟨g,hgg⟩:∃ g,peekF c.here tt=g:=⟨_,rfl⟩
 obtain ⟨t1,ht1⟩:∃ t1,peekB c.here fr=t1:=⟨_,rfl⟩
 obtain ⟨t2,ht2⟩:∃ t2,peekB c.here tt=t2:=⟨_,rfl⟩
 have hfl:=peek_short hs.hrow fr
 rw [hff] at hlook hby hfl
 rw [hgg] at hlook2
 rw [ht1] at hhas
 rw [ht2] at hhas2
 obtain ⟨fl,hfl'⟩:∃ fl,f.data.length=fl:=⟨_,rfl⟩
 obtain ⟨gl,hgl'⟩:∃ gl,g.data.length=gl:=⟨_,rfl⟩
 rw [hfl'] at hlook hby hfl
 rw [hgl'] at hlook2
 have HFF:=Lib.hid hff
 have HT1:=Lib.hid ht1
 have HT2:=Lib.hid ht2
 have HFL:=Lib.hid hfl'
 have HBY:=Lib.hid hby
 have HOWN:=Lib.hid hown
 have HLOOK:=Lib.hid hlook
 have HLOOK2:=Lib.hid hlook2
 have HKEY:=Lib.hid (key_str fr hf)
 have HKEY2:=Lib.hid (key_str tt ht)
 have HX:=Lib.hid hX
 obtain ⟨wa,hwa⟩:∃ wa,wa=w.alloc (.cells #[.int .i64 f.mode,.slice fA fl fc,.int .i64 f.time] 91):=⟨_,rfl⟩
 have hBa:Below w.heap.size w wa:=by rw [hwa];exact (Below.refl _ _).alloc (Nat.le_refl _) _
 have hba:Blk wa w.heap.size 91 #[.int .i64 f.mode,.slice fA fl fc,.int .i64 f.time]:=by rw [hwa];exact Blk.new _ _ _
 have hzw:w.heap.size<wa.heap.size:=hba.lt
 have HBA:=Lib.hid hBa
 have HBLK:=Lib.hid hba
 have HOWNA:=Lib.hid (own_only hown (Only.of_below (M:=fun _=>False) hBa) id)
 obtain ⟨wb,hwb⟩:∃ wb,wb=wa.alloc (.cells #[.int .i64 g.mode,.slice tA gl tc,.int .i64 g.time] 91):=⟨_,rfl⟩
 have hBb:Below wa.heap.size wa wb:=by rw [hwb];exact (Below.refl _ _).alloc (Nat.le_refl _) _
 have HBB:=Lib.hid (HBA.out.trans (hBb.mono (Nat.le_of_lt hzw)))
 have HBLKB:=Lib.hid (HBLK.out.below hBb hzw)
 have d6:wa.cell? ⟨b,6,none⟩=some (.pointer (some ⟨x.here,0,none⟩)):=(HX.out.below hBa).blk.cell 6
 have d0:wa.cell? ⟨x.here,0,none⟩=some (.map (some x.hf)):=(HX.out.below hBa).here.blk.cell 0
 clear hs hwe hX hM hown hfo hby hlook hlook2 hff hgg ht1 ht2 hfl' hgl' hBa hba hBb hXF
 obtain ⟨p1,hp1⟩:∃ p1,pathB fr=p1:=⟨_,rfl⟩
 obtain ⟨p2,hp2⟩:∃ p2,pathB tt=p2:=⟨_,rfl⟩
 have HP1:=Lib.hid hp1
 have HP2:=Lib.hid hp2
 clear hp1 hp2
 rw [HWE.out]
 go_enter Tryz.func102,Tryz.ntmps102
 go_upto_region 2 with (first | fail | (at_lookup;refine wpList_lookup_own_ok _ rfl _ _ 112 rfl 9 91 lawS Tryz.underlying112 hv (zeroF _) (.held zeroFile) [] rfl x.hf _ D rfl (by exact HOWN.out) _ (.string fr) rfl (by exact HKEY.out) ?_;intro v ps hv';obtain rfl:=HLOOK.out v ps hv';rw [hhas];clear hv'))
 rw [← hwa]
 clear hwa c6 c0
 go_upto_region 3 with (first | fail | (at_lookup;refine wpList_lookup_own_ok _ rfl _ _ 112 rfl 9 91 lawS Tryz.underlying112 hv (zeroF _) (.held zeroFile) [] rfl x.hf _ D rfl (by exact HOWNA.out) _ (.string tt) rfl (by exact HKEY2.out) ?_;intro v ps hv';obtain rfl:=HLOOK2.out v ps hv';rw [hhas2];clear hv'))
 rw [← hwb]
 clear hwb d6 d0
 go_wp2_with fail
 refine (npath_any fr _ hf).mono ?_
 rintro e w2 ⟨rfl,hb2⟩
 rw [HP1.out]
 have HB2:=Lib.hid (HBB.out.trans (hb2.mono HBB.out.size))
 have HBK2:=Lib.hid (HBLKB.out.below hb2 HBLKB.out.lt)
 clear hb2
 cases p1 with
 | false =>
  have HE:Hid (we=6):=by unfold Hid;rw [← HWE.out];unfold mvE;rw [if_pos (.inl HP1.out)]
  go_wp2_with fail
  go_ret
  exact ⟨by rw [HE.out];rfl,HNO.out 6 HE.out (.inl (by decide)) _ HB2.out⟩
 | true =>
  go_wp2_with fail
  refine (npath_any tt _ ht).mono ?_
  rintro e w3 ⟨rfl,hb3⟩
  rw [HP2.out]
  have HB3:=Lib.hid (HB2.out.trans (hb3.mono HB2.out.size))
  have HBK3:=Lib.hid (HBK2.out.below hb3 HBK2.out.lt)
  clear hb3
  cases p2 with
  | false =>
   have HE:Hid (we=6):=by unfold Hid;rw [← HWE.out];unfold mvE;rw [if_pos (.inr HP2.out)]
   go_wp2_with fail
   go_ret
   exact ⟨by rw [HE.out];rfl,HNO.out 6 HE.out (.inl (by decide)) _ HB3.out⟩
  | true =>
   have HPP:Hid (¬ (pathB fr=false∨pathB tt=false)):=by unfold Hid;rw [HP1.out,HP2.out];decide
   cases t1 with
   | false =>
    have HE:Hid (we=7):=by unfold Hid;rw [← HWE.out];unfold mvE;rw [if_neg HPP.out,if_pos HT1.out]
    go_wp2_with fail
    go_ret
    exact ⟨by rw [HE.out];rfl,HNO.out 7 HE.out (.inl (by decide)) _ HB3.out⟩
   | true =>
    have HN7:Hid (¬ peekB c.here fr=false):=by unfold Hid;rw [HT1.out];decide
    by_cases hct:create=true∧t2=true
    ·obtain ⟨rfl,rfl⟩:=hct
     have HE:Hid (we=8):=by unfold Hid;rw [← HWE.out];unfold mvE;rw [if_neg HPP.out,if_neg HN7.out,if_pos ⟨rfl,HT2.out⟩]
     go_wp2_with fail
     go_ret
     exact ⟨by rw [HE.out];rfl,HNO.out 8 HE.out (.inl (by decide)) _ HB3.out⟩
    ·have HCT:Hid (¬ (create=true∧peekB c.here tt=true)):=by unfold Hid;rw [HT2.out];exact hct
     go_upto_region 7 with (fail)
     go_cut [49] (fun v wx=>v=.bool false∧w3=wx)
     case first =>
      cases create with
      | false =>
       go_wp2_with fail
       go_meet
       exact ⟨rfl,rfl⟩
      | true =>
       cases t2 with
       | true=>exact absurd ⟨rfl,rfl⟩ hct
       | false =>
        go_wp2_with fail
        go_meet
        exact ⟨rfl,rfl⟩
     case rest =>
      obtain ⟨rfl,rfl⟩:=hcut
      clear hct
      by_cases hft:tt=fr
      ·have HE:Hid (we=0):=by unfold Hid;rw [← HWE.out];unfold mvE;rw [if_neg HPP.out,if_neg HN7.out,if_neg HCT.out,if_pos hft]
       have HFT:=Lib.hid hft
       have e1:=str_eq' hft
       clear hft
       go_wp2_with fail
       go_ret
       exact ⟨by rw [HE.out];rfl,HNO.out 0 HE.out (.inr HFT.out) _ HB3.out⟩
      ·have HFT:=Lib.hid hft
       have e1:=str_ne hft
       have hX3:=HX.out.below HB3.out
       have c6:w3.cell? ⟨b,6,none⟩=some (.pointer (some ⟨x.here,0,none⟩)):=hX3.blk.cell 6
       have HMAY:Hid (Calls Tryz.prog 127 #[.pointer (some ⟨x.here,0,none⟩),.string (str tt),.string (str fr)] w3 fun e w'=>e=.returned (.bool (mayC c.here tt fr))∧Below w3.heap.size w3 w'):=tmay_any F x.here x.hf x.hu c.here tt fr w3 hX3.here ht hf (by have:=HS.out.here;omega)
       obtain ⟨my,hmy⟩:∃ my,mayC c.here tt fr=my:=⟨_,rfl⟩
       rw [hmy] at HMAY
       have HMY:=Lib.hid hmy
       clear hX3 hmy hft
       go_wp2_with fail
       refine HMAY.out.mono ?_
       rintro e w4 ⟨rfl,hb4⟩
       have HB4:=Lib.hid (HB3.out.trans (hb4.mono HB3.out.size))
       have hbk4:=HBK3.out.below hb4 HBK3.out.lt
       clear hb4 c6
       cases my with
       | false =>
        have HE:Hid (we=9):=by unfold Hid;rw [← HWE.out];unfold mvE;rw [if_neg HPP.out,if_neg HN7.out,if_neg HCT.out,if_neg HFT.out,if_pos HMY.out]
        go_wp2_with fail
        go_ret
        exact ⟨by rw [HE.out];rfl,HNO.out 9 HE.out (.inl (by decide)) _ HB4.out⟩
       | true =>
        have HE:Hid (we=0):=by unfold Hid;rw [← HWE.out];unfold mvE;rw [if_neg HPP.out,if_neg HN7.out,if_neg HCT.out,if_neg HFT.out,if_neg (by rw [HMY.out];decide)]
        have x0:w4.cell? ⟨w.heap.size,0,none⟩=some (.int .i64 f.mode):=hbk4.cell 0
        have x1:w4.cell? ⟨w.heap.size,1,none⟩=some (.slice fA fl fc):=hbk4.cell 1
        have x2:w4.cell? ⟨w.heap.size,2,none⟩=some (.int .i64 f.time):=hbk4.cell 2
        have HDO:Hid (Calls Tryz.prog 128 #[.pointer (some ⟨b,0,none⟩),.agg #[.string (str fr),.string (str tt),.int .i64 f.mode,.slice fA fl fc,.int .i64 f.time]] w4 fun e w'=>e=.returned (.tuple #[])∧FcPost F M w b (mvC c fr tt create) w'):=by
         have hd:=do_any F M b c ⟨fr,tt,f⟩ (.slice fA fl fc) w4 (HAT.out.below HB4.out) (by have h:=HBY.out.only (Only.of_below (M:=fun _=>False) HB4.out) (fun _ _=>id);rw [← HFL.out] at h ⊢;exact h) (by have:=HS.out.time;omega) (by have:=HS.out.here;omega) (by have:=HS.out.both;omega) (by have:=HS.out.hused;omega) hf ht (by show f.data.length≤_;rw [HFL.out];omega)
         refine hd.mono ?_
         rintro e w' ⟨rfl,hpo⟩
         refine ⟨rfl,?_⟩
         have h2:=FcPost.of_below HB4.out hpo
         unfold mvC
         rw [if_pos ⟨HWE.out.trans HE.out,HFT.out⟩,HFF.out]
         exact h2
        clear hbk4
        go_wp2_with fail
        refine HDO.out.mono ?_
        rintro e w6 ⟨rfl,hp6⟩
        have HP6:=Lib.hid hp6
        clear hp6
        go_wp2_with fail
        go_ret
        exact ⟨by rw [HE.out];rfl,HP6.out⟩
end Go.Proofs.YtlkolcokjmlmjaaGreat.Tx
