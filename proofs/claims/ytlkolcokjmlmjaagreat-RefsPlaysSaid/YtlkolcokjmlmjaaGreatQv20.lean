/- Texts put together: VGs9, VGs10, VGs11. -/
import Derived.Test.YtlkolcokjmlmjaaGreatQv19
namespace Go.Proofs.YtlkolcokjmlmjaaGreat.Tx
open Go.RowKit Go.Maps Go.Proofs.YtlkolcokjmlmjaaGreat.Sh
theorem path_short {p:List UInt8} (h:pathB p=true):p.length≤1000:=by
 have:=((pathB_iff p).1 h).1
 omega
theorem wr_ok {c:CSt} {p:List UInt8} {mode:Int} {data:List UInt8} {room:Int} {create:Bool} (h:wrE c p mode data room create=0):pathB p=true∧data.length≤20000:=by
 unfold wrE at h
 split at h
 ·cases h
 ·rename_i hp
  split at h
  ·cases h
  ·split at h
   ·cases h
   ·rename_i hl
    exact ⟨by simpa using hp,by omega⟩
theorem CFits.wr {c:CSt} {N:Nat} (h:CFits c N) (p:List UInt8) (mode:Int) (data:List UInt8) (room:Int) (create:Bool):CFits (wrC c p mode data room create) (N+1):=by
 unfold wrC
 split
 ·rename_i he
  obtain ⟨h1,h2⟩:=wr_ok he
  exact h.do_ ⟨Nat.zero_le _,path_short h1,h2⟩
 ·exact h.more (by omega)
theorem CFits.rm {c:CSt} {N:Nat} (h:CFits c N) (p:List UInt8):CFits (rmC c p) (N+1):=by
 unfold rmC
 split
 ·rename_i he
  have hp:pathB p=true:=by
   unfold rmE at he
   split at he
   ·cases he
   ·rename_i hp;simpa using hp
  exact h.do_ ⟨path_short hp,Nat.zero_le _,Nat.zero_le _⟩
 ·exact h.more (by omega)
theorem CFits.mv {c:CSt} {N:Nat} (h:CFits c N) (fr tt:List UInt8) (create:Bool):CFits (mvC c fr tt create) (N+1):=by
 unfold mvC
 split
 ·rename_i he
  have hp:pathB fr=true∧pathB tt=true:=by
   have he:=he.1
   unfold mvE at he
   split at he
   ·cases he
   ·rename_i hp
    refine ⟨?_,?_⟩
    ·cases h1:pathB fr with
     | true=>rfl
     | false=>exact absurd (.inl h1) hp
    ·cases h1:pathB tt with
     | true=>rfl
     | false=>exact absurd (.inr h1) hp
  exact h.do_ ⟨path_short hp.1,path_short hp.2,peek_short h.hrow fr⟩
 ·exact h.more (by omega)
theorem CFits.note {c:CSt} {N:Nat} (h:CFits c N) (e:EvM):CFits (noteC c e) (N+1):=by
 have h1:CFits { c with users:=c.users++[{ e with at_:=c.calls }] } (N+1):=by
  have h2:=h.users
  have h3:=h.more (N':=N+1) (by omega)
  exact ⟨h3.here,h3.both,by rw [List.length_append];simp;omega,h3.time0,h3.time,h3.hrow,h3.drow,h3.prow⟩
 exact h1.settle
def uwE (c:CSt) (p:List UInt8) (mode:Int) (data:List UInt8):Int:=if c.down=true then 12 else wrE c p mode data 9223372036854775807 false
def uwC (c:CSt) (p:List UInt8) (mode:Int) (data:List UInt8):CSt:=if uwE c p mode data=0 then noteC (wrC c p mode data 9223372036854775807 false) ⟨0,4,mode,0,0,p,data⟩ else c
def urE (c:CSt) (p:List UInt8):Int:=if c.down=true then 12 else rmE c p
def urC (c:CSt) (p:List UInt8):CSt:=if urE c p=0 then noteC (rmC c p) ⟨0,5,0,0,0,p,[]⟩ else c
theorem CFits.uw {c:CSt} {N:Nat} (h:CFits c N) (p:List UInt8) (mode:Int) (data:List UInt8):CFits (uwC c p mode data) (N+2):=by
 unfold uwC
 split
 ·exact (h.wr p mode data _ false).note _
 ·exact h.more (by omega)
theorem CFits.ur {c:CSt} {N:Nat} (h:CFits c N) (p:List UInt8):CFits (urC c p) (N+2):=by
 unfold urC
 split
 ·exact (h.rm p).note _
 ·exact h.more (by omega)
set_option maxRecDepth 100000 in
set_option maxHeartbeats 6400000 in
theorem userr_any (F M : Nat → Prop) (b : Nat) (c : CSt) (N : Nat) (p : List UInt8) (w : World) (h : FcAt F w b c M) (hf : CFits c N) (hN : N ≤ 700000) (hp : p.length ≤ 1000000) :
  Calls Tryz.prog 57 #[.pointer (some ⟨b,0,none⟩),.string (str p)] w fun e w'=>e=.returned (.int .i64 (urE c p))∧FcPost F M w b (urC c p) w':=by
 have HAT:=Lib.hid h
 have HF:=Lib.hid hf
 obtain ⟨x,hX,_⟩:=h
 obtain ⟨dn,hdn⟩:∃ dn,c.down=dn:=⟨_,rfl⟩
 have c3:w.cell? ⟨b,3,none⟩=some (.bool dn):=by rw [← hdn];exact hX.blk.cell 3
 have HDN:=Lib.hid hdn
 obtain ⟨we,hwe⟩:∃ we,urE c p=we:=⟨_,rfl⟩
 have HWE:=Lib.hid hwe
 have HNO:Hid (we≠0→urC c p=c):=fun h0=>by unfold urC;rw [if_neg (by rw [HWE.out];exact h0)]
 clear hf hX hdn hwe
 rw [HWE.out]
 go_enter Tryz.func57,Tryz.ntmps57
 cases dn with
 | true =>
  have HE:Hid (we=12):=by unfold Hid;rw [← HWE.out];unfold urE;rw [if_pos HDN.out]
  go_wp2_with fail
  go_ret
  refine ⟨by rw [HE.out];rfl,?_⟩
  rw [HNO.out (by rw [HE.out];decide)]
  exact FcPost.refl HAT.out
 | false =>
  have HU:Hid (rmE c p=we):=by unfold Hid;rw [← HWE.out];unfold urE;rw [if_neg (by rw [HDN.out];decide)]
  go_wp2_with fail
  refine (remove_any F M b c p w HAT.out (HF.out.small (by omega)) hp).mono ?_
  rintro e w1 ⟨rfl,hp1⟩
  rw [HU.out]
  have HP1:=Lib.hid hp1
  clear hp1 c3
  by_cases h0:we=0
  ·subst h0
   have HC:Hid (urC c p=noteC (rmC c p) ⟨0,5,0,0,0,p,[]⟩):=by unfold Hid urC;rw [if_pos HWE.out]
   obtain ⟨M1,hat1,hon1,hsub1⟩:=HP1.out
   have HA1:=Lib.hid hat1
   have HO1:=Lib.hid hon1
   have HS1:=Lib.hid hsub1
   have HF1:=Lib.hid (HF.out.rm p)
   have HNOTE:Hid (Calls Tryz.prog 105 #[.pointer (some ⟨b,0,none⟩),.agg #[.int .i64 0,.int .i64 5,.int .i64 0,.int .i64 0,.int .i64 0,.string (str p),.slice none 0 0]] w1 fun e w'=>e=.returned (.tuple #[])∧FcPost F M w b (urC c p) w'):=by
    have hd:=note_any _ M1 b (rmC c p) ⟨0,5,0,0,0,p,[]⟩ (.slice none 0 0) w1 hat1 (By.nil_ _ _) (HF1.out.small (by omega)) (by have:=HF1.out.users;omega)
    refine hd.mono ?_
    rintro e w' ⟨rfl,hpo⟩
    rw [HC.out]
    exact ⟨rfl,FcPost.trans HO1.out HS1.out hpo⟩
   clear hat1 hon1 hsub1
   go_wp2_with fail
   refine HNOTE.out.mono ?_
   rintro e w2 ⟨rfl,hp2⟩
   have HP2:=Lib.hid hp2
   clear hp2
   go_wp2_with fail
   go_ret
   exact ⟨rfl,HP2.out⟩
  ·have e1:(we==0)=false:=by rw [beq_eq_false_iff_ne];exact h0
   have HC:=Lib.hid (HNO.out h0)
   have HRC:Hid (rmC c p=c):=rm_no HU.out h0
   clear h0
   go_wp2_with fail
   go_ret
   refine ⟨rfl,?_⟩
   rw [HC.out]
   have:=HP1.out
   rw [HRC.out] at this
   exact this
set_option maxRecDepth 100000 in
set_option maxHeartbeats 6400000 in
theorem userw_any (F M : Nat → Prop) (b : Nat) (c : CSt) (N : Nat) (p : List UInt8) (mode : Int) (dv : Value) (data : List UInt8) (G : Nat → Prop) (w : World) (h : FcAt F w b c M) (hf : CFits c N) (hN : N ≤ 700000) (hdv : By G w dv data) (hG : ∀ k, G k → ¬ M k) (hp : p.length ≤ 1000000) :
  Calls Tryz.prog 55 #[.pointer (some ⟨b,0,none⟩),.string (str p),.int .i64 mode,dv] w fun e w'=>e=.returned (.int .i64 (uwE c p mode data))∧FcPost F M w b (uwC c p mode data) w':=by
 have HAT:=Lib.hid h
 have HF:=Lib.hid hf
 have HDV:=Lib.hid hdv
 have HG:=Lib.hid hG
 obtain ⟨dA,dc,rfl,_,_⟩:=hdv.slice
 obtain ⟨n,hn⟩:∃ n,data.length=n:=⟨_,rfl⟩
 have HN:=Lib.hid hn
 obtain ⟨x,hX,_⟩:=h
 obtain ⟨dn,hdn⟩:∃ dn,c.down=dn:=⟨_,rfl⟩
 have c3:w.cell? ⟨b,3,none⟩=some (.bool dn):=by rw [← hdn];exact hX.blk.cell 3
 have HDN:=Lib.hid hdn
 obtain ⟨we,hwe⟩:∃ we,uwE c p mode data=we:=⟨_,rfl⟩
 have HWE:=Lib.hid hwe
 have HNO:Hid (we≠0→uwC c p mode data=c):=fun h0=>by unfold uwC;rw [if_neg (by rw [HWE.out];exact h0)]
 have HWR:Hid (Calls Tryz.prog 92 #[.pointer (some ⟨b,0,none⟩),.string (str p),.int .i64 mode,.slice dA n dc,.int .i64 9223372036854775807,.bool false] w fun e w'=>e=.returned (.int .i64 (wrE c p mode data 9223372036854775807 false))∧FcPost F M w b (wrC c p mode data 9223372036854775807 false) w'):=by
  have h1:SlV w (.slice dA data.length dc) (data.map bv):=Rd.slv (by rw [List.length_map];exact hdv)
  rw [hn] at h1
  exact write_any F M b c p mode (.slice dA n dc) data 9223372036854775807 false w HAT.out (HF.out.small (by omega)) h1 hp
 rw [hn]
 clear hf hX hdn hwe hdv hG hn
 rw [HWE.out]
 go_enter Tryz.func55,Tryz.ntmps55
 cases dn with
 | true =>
  have HE:Hid (we=12):=by unfold Hid;rw [← HWE.out];unfold uwE;rw [if_pos HDN.out]
  go_wp2_with fail
  go_ret
  refine ⟨by rw [HE.out];rfl,?_⟩
  rw [HNO.out (by rw [HE.out];decide)]
  exact FcPost.refl HAT.out
 | false =>
  have HU:Hid (wrE c p mode data 9223372036854775807 false=we):=by unfold Hid;rw [← HWE.out];unfold uwE;rw [if_neg (by rw [HDN.out];decide)]
  go_wp2_with fail
  refine HWR.out.mono ?_
  rintro e w1 ⟨rfl,hp1⟩
  rw [HU.out]
  have HP1:=Lib.hid hp1
  clear hp1 c3
  by_cases h0:we=0
  ·subst h0
   have HC:Hid (uwC c p mode data=noteC (wrC c p mode data 9223372036854775807 false) ⟨0,4,mode,0,0,p,data⟩):=by unfold Hid uwC;rw [if_pos HWE.out]
   have HDL:=Lib.hid (wr_ok HU.out).2
   obtain ⟨M1,hat1,hon1,hsub1⟩:=HP1.out
   have HA1:=Lib.hid hat1
   have HO1:=Lib.hid hon1
   have HS1:=Lib.hid hsub1
   have HF1:=Lib.hid (HF.out.wr p mode data 9223372036854775807 false)
   have hdv1:=HDV.out.only hon1 HG.out
   have HDV1:Hid (SlV w1 (.slice dA n dc) (data.map bv)):=by
    have:SlV w1 (.slice dA data.length dc) (data.map bv):=Rd.slv (by rw [List.length_map];exact hdv1)
    rw [HN.out] at this
    exact this
   clear hat1 hon1 hsub1 hdv1
   go_wp2_with fail
   refine (bclone_any _ data _ HDV1.out (by have:=HDL.out;omega)).mono ?_
   rintro e w2 ⟨v2,rfl,ho2,hb2⟩
   obtain ⟨A2,c2,rfl,_,_⟩:=ho2.length
   rw [List.length_map,HN.out] at ho2 ⊢
   have HNOTE:Hid (Calls Tryz.prog 105 #[.pointer (some ⟨b,0,none⟩),.agg #[.int .i64 0,.int .i64 4,.int .i64 mode,.int .i64 0,.int .i64 0,.string (str p),.slice A2 n c2]] w2 fun e w'=>e=.returned (.tuple #[])∧FcPost F M w b (uwC c p mode data) w'):=by
    have hMlt:∀ k,M1 k→k<w1.heap.size:=HA1.out.lt
    have hFlt:∀ k,grow F w w1 M1 k→k<w1.heap.size:=HA1.out.low
    have hat:FcAt (fun k=>grow F w w1 M1 k∨(w1.heap.size≤k∧k<w2.heap.size)) w2 b (wrC c p mode data 9223372036854775807 false) M1:=(HA1.out.below hb2).wide (w:=w1) (fun k hk=>hk) (fun k hk=>.inl hk) hMlt
    have hd:=note_any _ M1 b (wrC c p mode data 9223372036854775807 false) ⟨0,4,mode,0,0,p,data⟩ (.slice A2 n c2) w2 hat ho2.by_ (HF1.out.small (by omega)) (by have:=HF1.out.users;omega)
    refine hd.mono ?_
    rintro e w' ⟨rfl,hpo⟩
    rw [HC.out]
    exact ⟨rfl,FcPost.trans HO1.out HS1.out (FcPost.wide hb2 hpo (fun k hk=>hk) (fun k hk=>.inl hk) hMlt hFlt)⟩
   clear ho2 hb2
   go_wp2_with fail
   refine HNOTE.out.mono ?_
   rintro e w3 ⟨rfl,hp3⟩
   have HP3:=Lib.hid hp3
   clear hp3
   go_wp2_with fail
   go_ret
   exact ⟨rfl,HP3.out⟩
  ·have e1:(we==0)=false:=by rw [beq_eq_false_iff_ne];exact h0
   have HC:=Lib.hid (HNO.out h0)
   have HRC:Hid (wrC c p mode data 9223372036854775807 false=c):=wr_no HU.out h0
   clear h0
   go_wp2_with fail
   go_ret
   refine ⟨rfl,?_⟩
   rw [HC.out]
   have:=HP1.out
   rw [HRC.out] at this
   exact this
end Go.Proofs.YtlkolcokjmlmjaaGreat.Tx
namespace Go.Proofs.YtlkolcokjmlmjaaGreat.Tx
open Go.RowKit Go.Maps Go.Proofs.YtlkolcokjmlmjaaGreat.Sh
def tearsB (q:ChM) (torn:Int):Bool:=decide (q.gone=[])&&(decide (0≤torn)&&decide (torn<(q.f.data.length:Int)))
set_option maxRecDepth 100000 in
set_option maxHeartbeats 1600000 in
theorem tears_any (q : ChM) (dA : Option Addr) (n dc : Nat) (torn : Int) (w : World) (hn : q.f.data.length = n) :
  Calls Tryz.prog 107 #[.agg #[.string (str q.gone),.string (str q.path),.int .i64 q.f.mode,.slice dA n dc,.int .i64 q.f.time],.int .i64 torn] w fun e w'=>e=.returned (.bool (tearsB q torn))∧Below w.heap.size w w':=by
 have HN:=Lib.hid hn
 clear hn
 have HB:Hid (Below w.heap.size w (w.alloc (.cells #[.string (str q.gone),.string (str q.path),.int .i64 q.f.mode,.slice dA n dc,.int .i64 q.f.time] 133))):=(Below.refl _ _).alloc (Nat.le_refl _) _
 go_enter Tryz.func107,Tryz.ntmps107
 by_cases hg:q.gone=[]
 ·have HG:=Lib.hid hg
  obtain ⟨z2,z3⟩:=str_nil hg
  clear hg
  by_cases h0:0≤torn
  ·by_cases h1:torn<(n:Int)
   ·have HT:Hid (tearsB q torn=true):=by unfold Hid tearsB;rw [decide_eq_true HG.out,decide_eq_true h0,HN.out,decide_eq_true h1];rfl
    go_wp2
    go_ret
    exact ⟨by rw [HT.out];rfl,HB.out⟩
   ·have HT:Hid (tearsB q torn=false):=by unfold Hid tearsB;rw [decide_eq_true HG.out,decide_eq_true h0,HN.out,decide_eq_false h1];rfl
    go_wp2
    go_ret
    exact ⟨by rw [HT.out];rfl,HB.out⟩
  ·have HT:Hid (tearsB q torn=false):=by unfold Hid tearsB;rw [decide_eq_true HG.out,decide_eq_false h0];rfl
   go_wp2
   go_ret
   exact ⟨by rw [HT.out];rfl,HB.out⟩
 ·have HG:=Lib.hid hg
  obtain ⟨z2,z3⟩:=str_some hg
  clear hg
  have HT:Hid (tearsB q torn=false):=by unfold Hid tearsB;rw [decide_eq_false HG.out];rfl
  go_wp2
  go_ret
  exact ⟨by rw [HT.out];rfl,HB.out⟩
theorem size_ch (w:World):(sizeOf (Tryz.prog.elem 66)).run Tryz.prog w=.ok 5 w:=by kernel_rfl
set_option maxRecDepth 100000 in
theorem chs_front (A:Option Addr) (l c k:Nat) (hkc:k≤c) (w:World):(Instr.slice 66 (.slice A l c) none (some (.int .i64 (k:Int))) none).run Tryz.prog w=.ok (.slice A k c) w:=by
 rw [run_slice_h w 66 A l c Tryz.underlying66 .i64 k (by omega) (by omega),size_ch]
 simp only [Result.andThen_ok,sliced,Int.toNat_natCast]
 by_cases h:c=0
 ·subst h;simp
 ·have e:A.map (fun a=>a.add 0)=A:=by cases A <;> simp [Addr.add]
  simp [h,e]
set_option maxRecDepth 100000 in
theorem chs_back (A:Option Addr) (l c k:Nat) (hkl:k≤l) (w:World):(Instr.slice 66 (.slice A l c) (some (.int .i64 (k:Int))) none none).run Tryz.prog w=.ok (.slice (if c=k then A else A.map (fun a=>a.add (k*5))) (l - k) (c - k)) w:=by
 rw [run_slice_l w 66 A l c Tryz.underlying66 .i64 k (by omega) (by omega),size_ch]
 simp only [Result.andThen_ok,sliced,Int.toNat_natCast]
theorem OwnL.take {K:Shape} {T:TypeId} {F:Nat→Prop} {w:World} {B:Nat} {A:Option Addr} {n c:Nat} {l:List K.α} (h:OwnL K T F w B (.slice A n c) l) (k:Nat) (hk:k≤n):OwnL K T F w B (.slice A k c) (l.take k):=by
 obtain ⟨⟨ds,h1,h2⟩,h3⟩:=h
 have hl:n=l.length:=by
  obtain ⟨A',c',e,_⟩:=(TmpL.slice (K:=K) (F:=F) (w:=w) (v:=.slice A n c) (l:=l) ⟨ds,Rd.of_own h1 (fun _ _=>trivial),h2⟩)
  injection e
 have hdl:=h2.1
 rw [List.length_map] at hdl
 have hcut:ShC K (l.take k) (ds.take k)=(ShC K l ds).take (k*K.m):=by
  have e1:ShC K l ds=ShC K (l.take k) (ds.take k)++ShC K (l.drop k) (ds.drop k):=by
   rw [← ShC_app (by rw [List.length_take,List.length_take,hdl]),List.take_append_drop,List.take_append_drop]
  have e2:(ShC K (l.take k) (ds.take k)).length=k*K.m:=by
   rw [ShC_length (by rw [List.length_take,List.length_take,hdl]),List.length_take,Nat.min_eq_left (by omega)]
  rw [e1,← e2,List.take_left]
 have hkl:(l.take k).length=k:=by rw [List.length_take,Nat.min_eq_left (by omega)]
 refine ⟨⟨ds.take k,?_,?_⟩,fun g hg=>?_⟩
 ·rw [hkl,hcut]
  obtain ⟨g1,g2⟩:=h1
  refine ⟨?_,?_⟩
  ·rw [List.length_take,g1]
   exact Nat.min_eq_left (Nat.mul_le_mul_right _ (by omega))
  ·rcases g2 with ⟨e,e0⟩ | ⟨g,cap,cur,e,hb,hg,h4,h5,h6,h7⟩
   ·injection e with ea eb ec
    left
    subst ea ec
    have:k=0:=by omega
    subst this
    exact ⟨rfl,rfl⟩
   ·injection e with ea eb ec
    right
    subst ea ec
    refine ⟨g,c,cur,rfl,hb,hg,by omega,h5,h6,?_⟩
    rw [← h7,List.take_take,Nat.min_eq_left (Nat.mul_le_mul_right _ (by omega))]
 ·refine ⟨by rw [List.length_take,List.length_map,List.length_take,hdl],fun i d bs hd hbs=>?_⟩
  have hi:i<k:=by
   have:=(List.getElem?_eq_some_iff.1 hd).1
   rw [List.length_take] at this
   omega
  rw [List.getElem?_take_of_lt hi] at hd
  rw [List.map_take,List.getElem?_take_of_lt hi] at hbs
  exact h2.2 i d bs hd hbs
 ·refine h3 g ?_
  cases A with
  | none=>cases hg
  | some ad=>exact hg
section
variable {F M:Nat→Prop} {w w':World} {b:Nat} {c:CSt} {x:FcV}
theorem FcX.newhere (hX:FcX F w b c x) (hM:∀ k,M k↔fcM b x k) {t':Nat} {R:List RowM} (h:NewTree F w w' t' R):FcPost F M w b { c with here:=R } (w'.setCell ⟨b,6,none⟩ (.pointer (some ⟨t',0,none⟩))):=by
 obtain ⟨hb,f',u',hT,hl⟩:=h
 have ow:Only (fun k=>k=b) w (w'.setCell ⟨b,6,none⟩ (.pointer (some ⟨t',0,none⟩))):=Only.set_ (M:=fun k=>k=b) (g:=b) (i:=6) (Only.of_below hb) (.inl rfl) _
 have o2:Only (fun k=>k=b) w' (w'.setCell ⟨b,6,none⟩ (.pointer (some ⟨t',0,none⟩))):=Only.set_ (M:=fun k=>k=b) (g:=b) (i:=6) (Only.refl _ w') (.inl rfl) _
 have hbw:=hX.blk.lt
 refine fc_fin (x':={ x with here:=t',hf:=f',hu:=u' }) hX hM (ow.more (fun k _ e=>.inl e)) (fun k hk=>?_) ((hX.blk.below hb hbw).set_ 6 _) ?_ ?_ ?_ ?_ ?_ (fun k hk hd=>?_)
 ·rcases hk with h | h | h | h | h
  ·exact .inl (.inl h)
  ·exact .inr (hl k h)
  ·exact .inl (.inr (.inr (.inl h)))
  ·exact .inl (.inr (.inr (.inr (.inl h))))
  ·exact .inl (.inr (.inr (.inr (.inr h))))
 ·exact (hT.only o2 hX.Fb (fun k hk e=>by have:=hl k hk;omega)).mono (fun _ _ h=>.inl h)
 ·exact hX.durG ow hX.Fb (fun k hk e=>hX.db (e ▸ hk))
 ·exact hX.pendG ow hX.Fb (fun k hk e=>hX.pb (e ▸ hk)) (fun k hk=>.inr (.inr (.inr (.inl hk))))
 ·exact hX.planG ow hX.Fb
 ·exact hX.usersG ow hX.Fb (fun k hk e=>hX.ub (e ▸ hk)) (fun k hk=>.inr (.inr (.inr (.inr hk))))
 ·have:=hl k hk
  have:=hX.dur.lt k hd
  omega
end
def keepC (c:CSt) (keep:Int):Nat:=(min (max keep 0) (c.pending.length:Int)).toNat
def partC (q:ChM) (torn:Int):ChM:={ q with f:={ q.f with data:=q.f.data.take torn.toNat } }
def leftC (c:CSt) (keep torn:Int):List ChM:=c.pending.take (keepC c keep)++match c.pending[keepC c keep]? with
 | none=>[]
 | some q=>if tearsB q torn=true then [partC q torn] else []
def crC (c:CSt) (keep torn:Int):CSt:=if c.down=true then c else
 let s:=settleC { c with pending:=leftC c keep torn }
 { s with here:=s.durable,down:=true }
end Go.Proofs.YtlkolcokjmlmjaaGreat.Tx
namespace Go.Proofs.YtlkolcokjmlmjaaGreat.Tx
open Go.RowKit Go.Maps Go.Proofs.YtlkolcokjmlmjaaGreat.Sh
theorem left_small {c:CSt} (hs:CSmall c) (keep torn:Int):CSmall { c with pending:=leftC c keep torn }:=by
 have hlen:(leftC c keep torn).length≤c.pending.length:=by
  unfold leftC
  rw [List.length_append,List.length_take]
  cases h:c.pending[keepC c keep]? with
  | none=>simp;omega
  | some q =>
   have:=(List.getElem?_eq_some_iff.1 h).1
   show _+(if tearsB q torn=true then [partC q torn] else []).length≤_
   split
   ·simp;omega
   ·simp;omega
 refine ⟨hs.here,by have:=hs.both;show c.durable.length+(leftC c keep torn).length≤_;omega,hs.users,hs.time,hs.hused,hs.hrow,hs.drow,fun r hr=>?_⟩
 have hr':r∈leftC c keep torn:=hr
 unfold leftC at hr'
 rcases List.mem_append.1 hr' with h | h
 ·exact hs.prow r (List.mem_of_mem_take h)
 ·cases hq:c.pending[keepC c keep]? with
  | none=>rw [hq] at h;cases h
  | some q =>
   rw [hq] at h
   have h':r∈(if tearsB q torn=true then [partC q torn] else []):=h
   split at h'
   ·rw [List.mem_singleton.1 h']
    have:=hs.prow q (List.mem_of_getElem? hq)
    exact ⟨this.1,this.2.1,by show (q.f.data.take torn.toNat).length≤_;rw [List.length_take];have:=this.2.2;omega⟩
   ·cases h'
set_option maxRecDepth 100000 in
set_option maxHeartbeats 9600000 in
theorem crash_any (F M : Nat → Prop) (b : Nat) (c : CSt) (keep torn : Int) (w : World) (h : FcAt F w b c M) (hs : CSmall c) :
  Calls Tryz.prog 59 #[.pointer (some ⟨b,0,none⟩),.int .i64 keep,.int .i64 torn] w fun e w'=>e=.returned (.tuple #[])∧FcPost F M w b (crC c keep torn) w':=by
 have H:=Lib.hid h
 obtain ⟨x,hX,hM⟩:=h
 obtain ⟨dn,hdn⟩:∃ dn,c.down=dn:=⟨_,rfl⟩
 have c3:w.cell? ⟨b,3,none⟩=some (.bool dn):=by rw [← hdn];exact hX.blk.cell 3
 have HDN:=Lib.hid hdn
 have HX:=Lib.hid hX
 have HMM:=Lib.hid hM
 have HS:=Lib.hid hs
 have hblt:=hX.blk.lt
 clear hX hM hdn hs
 cases dn with
 | true =>
  have HC:Hid (crC c keep torn=c):=by unfold Hid crC;rw [if_pos HDN.out]
  go_enter Tryz.func59,Tryz.ntmps59
  go_wp2
  refine bodyPost_ret (v:=.tuple #[]) (by simp [results,Tryz.results59,go_sem]) rfl ⟨rfl,?_⟩
  rw [HC.out]
  exact FcPost.refl H.out
 | false =>
  have HC:Hid (crC c keep torn={ settleC { c with pending:=leftC c keep torn } with here:=(settleC { c with pending:=leftC c keep torn }).durable,down:=true }):=by unfold Hid crC;rw [if_neg (by rw [HDN.out];decide)]
  obtain ⟨PA,pc,hPA,hpc1,hpc2,hptmp⟩:=HX.out.chs
  have c8:w.cell? ⟨b,8,none⟩=some (.slice PA c.pending.length pc):=by rw [← hPA];exact HX.out.blk.cell 8
  have c8f:w.frozen? ⟨b,8,none⟩=false:=HX.out.blk.frozen 8
  obtain ⟨pl,hpl⟩:∃ pl,c.pending.length=pl:=⟨_,rfl⟩
  rw [hpl] at c8 hpc1 hptmp
  unfold maxLen at hpc2
  obtain ⟨n,hn⟩:∃ n,keepC c keep=n:=⟨_,rfl⟩
  have hmm:min (max keep 0) (pl:Int)=(n:Int):=by rw [← hn,← hpl];unfold keepC;omega
  obtain ⟨mx,hmx⟩:∃ mx,(if keep<0 then 0 else keep)=mx:=⟨_,rfl⟩
  have hmx2:max keep 0=mx:=by rw [← hmx];split <;> omega
  have hmm2:(if (pl:Int)<mx then (pl:Int) else mx)=(n:Int):=by rw [hmx2] at hmm;split <;> omega
  rw [hmx2] at hmm
  have hnp:n≤pl:=by omega
  have hpl9:pl≤900000:=by have:=HS.out.both;omega
  have hfront:=chs_front PA pl pc n (by omega)
  have hback:=chs_back PA pl pc n (by omega)
  obtain ⟨LA,hLA⟩:∃ LA,(if pc=n then PA else PA.map (fun a=>a.add (n*5)))=LA:=⟨_,rfl⟩
  obtain ⟨m,hm⟩:∃ m,pl - n=m:=⟨_,rfl⟩
  obtain ⟨lc,hlc⟩:∃ lc,pc - n=lc:=⟨_,rfl⟩
  rw [hLA,hm,hlc] at hback
  have HLA:=Lib.hid hLA
  have HM:=Lib.hid hm
  have HLC:=Lib.hid hlc
  have HN:=Lib.hid hn
  have HPL:=Lib.hid hpl
  have HPT:=Lib.hid hptmp
  have hpend:=HX.out.pending
  rw [hPA,hpl] at hpend
  have HPE:=Lib.hid (hpend.take n hnp)
  have HOB:Hid ((Value.slice PA n pc).ownBlock=x.pending.ownBlock):=by
   unfold Hid
   rw [hPA]
   cases PA <;> rfl
  have n0:(0:Int)≤(n:Int):=by omega
  have n1:(n:Int)≤(pl:Int):=by omega
  have hpo:=HX.out.pend_ HMM.out (Below.refl _ w) (World.grownBy.refl w _) HPE.out (.inl HOB.out)
  have HPO:=Lib.hid hpo
  have ho1:Only (fun k=>k=b) w (w.setCell ⟨b,8,none⟩ (.slice PA n pc)):=Only.set_ (M:=fun k=>k=b) (g:=b) (i:=8) (Only.refl _ w) (.inl rfl) _
  have HPT1:Hid (ChsTmp F (w.setCell ⟨b,8,none⟩ (.slice PA n pc)) (.slice PA pl pc) c.pending):=by
   have h1:=(HX.out.pending.only ho1 HX.out.Fb (fun k hk e=>HX.out.pb (e ▸ hk))).tmp
   rw [hPA,hpl] at h1
   exact h1
  clear hn hpl hptmp hPA hpend hpo ho1 hLA hlc
  go_enter Tryz.func59,Tryz.ntmps59
  go_upto_region 4 with (fail)
  generalize w.setCell ⟨b,8,none⟩ (.slice PA n pc)=w1 at *
  obtain ⟨M1,hat1,hon1,hsub1⟩:=HPO.out
  have HA1:=Lib.hid hat1
  have HO1:=Lib.hid hon1
  have HS1:=Lib.hid hsub1
  clear hat1 hon1 hsub1 c8 c8f c3 hmm hmm2 hfront hback
  obtain ⟨tt,htt⟩:∃ tt,(match c.pending[n]? with | none=>false | some q=>tearsB q torn)=tt:=⟨_,rfl⟩
  have HTT:=Lib.hid htt
  clear htt
  go_cut [45] (fun v wx=>v=.bool tt∧Below w1.heap.size w1 wx)
  case first =>
   cases hq:c.pending[n]? with
   | none =>
    have hle:c.pending.length≤n:=by simpa using hq
    have HT:Hid (tt=false):=by unfold Hid;rw [← HTT.out,hq]
    have m0:m=0:=by have:=HPL.out;have:=HM.out;omega
    subst m0
    have z0:¬ (0:Int)<((0:Nat):Int):=by omega
    clear hq hle
    go_wp2_with fail
    go_meet
    exact ⟨by rw [HT.out],Below.refl _ _⟩
   | some q =>
    have hlt:=(List.getElem?_eq_some_iff.1 hq).1
    have HT:Hid (tearsB q torn=tt):=by unfold Hid;rw [← HTT.out,hq]
    obtain ⟨ad,dA,dc,rfl,hby,_,_,x0,x1,x2,x3,x4⟩:=ch_cells HPT1.out n q hq
    have hla:LA=some (ad.add (n*5)):=by
     rw [← HLA.out,if_neg (by have:=HPL.out;omega)]
     rfl
    subst hla
    have m1:(0:Int)<(m:Int):=by have:=HPL.out;have:=HM.out;omega
    have HTE:=Lib.hid (fun w=>tears_any q dA q.f.data.length dc torn w rfl)
    clear hq hlt hby
    go_wp2_with fail
    refine (HTE.out _).mono ?_
    rintro e w2 ⟨rfl,hb2⟩
    rw [HT.out]
    have HB2:=Lib.hid hb2
    clear hb2
    go_wp2_with fail
    go_meet
    exact ⟨rfl,HB2.out⟩
  case rest =>
   obtain ⟨rfl,hb2⟩:=hcut
   have HB2:=Lib.hid hb2
   clear hb2
   obtain ⟨w2,hw2⟩:∃ w2,w2=wc:=⟨_,rfl⟩
   subst hw2
   go_upto_if 45 with (fail)
   go_cut [] (fun wx=>FcPost F M w b { c with pending:=leftC c keep torn } wx)
   case first =>
    cases tt with
    | false =>
     have HL:Hid (leftC c keep torn=c.pending.take n):=by
      unfold Hid leftC
      rw [HN.out]
      cases hq:c.pending[n]? with
      | none=>exact List.append_nil _
      | some q =>
       have:=HTT.out
       rw [hq] at this
       show _++(if tearsB q torn=true then _ else _)=_
       rw [if_neg (by rw [show tearsB q torn=false from this];decide)]
       exact List.append_nil _
     go_wp2_with fail
     go_meet
     rw [HL.out]
     exact FcPost.then_below HPO.out HB2.out
    | true =>
     obtain ⟨q,hq⟩:∃ q,c.pending[n]?=some q:=by
      cases hq:c.pending[n]? with
      | none=>have h:=HTT.out;rw [hq] at h;cases h
      | some q=>exact ⟨q,rfl⟩
     have hte:tearsB q torn=true:=by have h:=HTT.out;rw [hq] at h;exact h
     have hlt:=(List.getElem?_eq_some_iff.1 hq).1
     have htn:0≤torn∧torn<(q.f.data.length:Int):=by
      unfold tearsB at hte
      rw [Bool.and_eq_true,Bool.and_eq_true] at hte
      exact ⟨of_decide_eq_true hte.2.1,of_decide_eq_true hte.2.2⟩
     have HL:Hid (leftC c keep torn=c.pending.take n++[partC q torn]):=by
      unfold Hid leftC
      rw [HN.out,hq]
      show _++(if tearsB q torn=true then _ else _)=_
      rw [if_pos hte]
     obtain ⟨tn,rfl⟩:∃ tn:Nat,torn=(tn:Int):=⟨torn.toNat,by omega⟩
     obtain ⟨ad,dA,dc,rfl,hby,hdc1,_,x0,x1,x2,x3,x4⟩:=ch_cells (HPT1.out.below HB2.out) n q hq
     have hla:LA=some (ad.add (n*5)):=by
      rw [← HLA.out,if_neg (by have:=HPL.out;omega)]
      rfl
     subst hla
     have m1:(0:Int)<(m:Int):=by have:=HPL.out;have:=HM.out;omega
     obtain ⟨ql,hql⟩:∃ ql,q.f.data.length=ql:=⟨_,rfl⟩
     rw [hql] at htn hby hdc1 x3
     have hqs:=(HS.out.prow q (List.mem_of_getElem? hq)).2.2
     have hbt:By F w2 (.slice dA tn dc) (q.f.data.take tn):=by
      rw [← hql] at hby
      exact hby.take tn (by omega)
     have hfr:=bytes_front dA ql dc tn (by omega)
     obtain ⟨wb,hwb⟩:∃ wb,wb=w2.alloc (.cells #[.string (str q.gone),.string (str q.path),.int .i64 q.f.mode,.slice dA ql dc,.int .i64 q.f.time] 133):=⟨_,rfl⟩
     have hBb:Below w2.heap.size w2 wb:=by rw [hwb];exact (Below.refl _ _).alloc (Nat.le_refl _) _
     have hbox:Blk wb w2.heap.size 133 #[.string (str q.gone),.string (str q.path),.int .i64 q.f.mode,.slice dA ql dc,.int .i64 q.f.time]:=by rw [hwb];exact Blk.new _ _ _
     have y3:wb.cell? ⟨w2.heap.size,3,none⟩=some (.slice dA ql dc):=hbox.cell 3
     have y3f:wb.frozen? ⟨w2.heap.size,3,none⟩=false:=hbox.frozen 3
     have HBOX:Hid (Blk (wb.setCell ⟨w2.heap.size,3,none⟩ (.slice dA tn dc)) w2.heap.size 133 #[.string (str q.gone),.string (str q.path),.int .i64 q.f.mode,.slice dA tn dc,.int .i64 q.f.time]):=hbox.set_ 3 _
     have hB4:Below w2.heap.size w2 (wb.setCell ⟨w2.heap.size,3,none⟩ (.slice dA tn dc)):=hBb.setCell (p:=⟨w2.heap.size,3,none⟩) (Nat.le_refl _) _
     have HB4:=Lib.hid (HB2.out.trans (hB4.mono HB2.out.size))
     have HBT:=Lib.hid (hbt.only (Only.of_below (M:=fun _=>False) hB4) (fun _ _=>id))
     have HTN:Hid (tn≤20000):=by unfold Hid;omega
     clear hq hte hlt hby hbt hBb hbox hB4
     go_upto_region 6 with (fail)
     rw [← hwb]
     clear hwb x0 x1 x2 x3 x4
     go_upto_region 7 with (fail)
     generalize wb.setCell ⟨w2.heap.size,3,none⟩ (.slice dA tn dc)=w4 at *
     obtain ⟨xx,hXX,hMX⟩:=HA1.out.below HB4.out
     have HXX:=Lib.hid hXX
     have HMX:=Lib.hid hMX
     have HBF:Hid (By (grow F w w1 M1) w4 (.slice dA tn dc) (q.f.data.take tn)):=HBT.out.mono (fun _ _ h=>.inl h)
     have hbx:=HBOX.out
     obtain ⟨r0,r1,r2,r3,r4⟩:w4.cell? ⟨w2.heap.size,0,none⟩=some (.string (str q.gone))∧w4.cell? ⟨w2.heap.size,1,none⟩=some (.string (str q.path))∧w4.cell? ⟨w2.heap.size,2,none⟩=some (.int .i64 q.f.mode)∧w4.cell? ⟨w2.heap.size,3,none⟩=some (.slice dA tn dc)∧w4.cell? ⟨w2.heap.size,4,none⟩=some (.int .i64 q.f.time):=⟨hbx.cell 0,hbx.cell 1,hbx.cell 2,hbx.cell 3,hbx.cell 4⟩
     have p8:w4.cell? ⟨b,8,none⟩=some xx.pending:=hXX.blk.cell 8
     clear hXX hMX hbx y3 y3f
     obtain ⟨q2,hq2⟩:∃ q2,partC q (tn:Int)=q2:=⟨_,rfl⟩
     have HQ2:=Lib.hid hq2
     have HQC:Hid (chK.cells q2 (.slice dA tn dc)=[.string (str q.gone),.string (str q.path),.int .i64 q.f.mode,.slice dA tn dc,.int .i64 q.f.time]∧q2.f.data=q.f.data.take tn):=by rw [← hq2];exact ⟨rfl,by show q.f.data.take (tn:Int).toNat=_;simp⟩
     have HBF2:Hid (By (grow F w w1 M1) w4 (.slice dA tn dc) (chK.data q2)):=by unfold Hid;rw [show chK.data q2=q.f.data.take tn from HQC.out.2];exact HBF.out
     clear hq2
     have HPA:=Lib.hid (HXX.out.pending.alloc (.cells #[.string (str q.gone),.string (str q.path),.int .i64 q.f.mode,.slice dA tn dc,.int .i64 q.f.time] 133))
     have HPD:=Lib.hid (HXX.out.pending.drew.alloc (.cells #[.string (str q.gone),.string (str q.path),.int .i64 q.f.mode,.slice dA tn dc,.int .i64 q.f.time] 133))
     have HLA':=Lib.hid (TmpL.one (K:=chK) (F:=grow F w w1 M1) (a:=q2) (d:=.slice dA tn dc) (Blk.new w4 133 #[.string (str q.gone),.string (str q.path),.int .i64 q.f.mode,.slice dA tn dc,.int .i64 q.f.time]) HQC.out.1.symm (HBF2.out.only ((Only.refl (fun _=>False) w4).alloc _) (fun _ _=>id)))
     have HLD:=Lib.hid (TmpL.one (K:=chK) (F:=grow F w w1 M1) (a:=q2) (d:=.slice dA tn dc) (Blk.new w4.drew 133 #[.string (str q.gone),.string (str q.path),.int .i64 q.f.mode,.slice dA tn dc,.int .i64 q.f.time]) HQC.out.1.symm (HBF2.out.only (((Only.refl (fun _=>False) w4).drew).alloc _) (fun _ _=>id)))
     have HFP:Hid (∀ k,grow F w w1 M1 k→k<(w4.alloc (.cells #[.string (str q.gone),.string (str q.path),.int .i64 q.f.mode,.slice dA tn dc,.int .i64 q.f.time] 133)).heap.size):=fun k hk=>by have:=HXX.out.low k hk;simp;omega
     have s1:Hid ((c.pending.take n).length+[q2].length≤2000000):=by unfold Hid;rw [List.length_take];simp;omega
     have p8a:(w4.alloc (.cells #[.string (str q.gone),.string (str q.path),.int .i64 q.f.mode,.slice dA tn dc,.int .i64 q.f.time] 133)).cell? ⟨b,8,none⟩=some xx.pending:=(HXX.out.blk.alloc _).cell 8
     go_region_law (refine step_appendL typed_ch (v:=xx.pending) (l:=c.pending.take n) (ex:=.slice (some ⟨w4.heap.size,0,none⟩) 1 1) (l2:=[q2]) rfl (.tmp 60) (.tmp 62) rfl (by first | exact HPA.out.drew | exact HPA.out | exact HPD.out) (by first | exact HLA'.out.drew | exact HLA'.out | exact HLD.out) (by rfl) (by rfl) s1.out (by exact Nat.zero_le _) (by exact HFP.out) ?_;intro v5 w5 ho5 hg5 hk5;obtain ⟨A5,c5,hv5,_,_⟩:=ho5.tmp.slice;subst hv5;have hb5:Blk w5 b 68 (fcC { c with pending:=c.pending.take n } xx):=(HXX.out.blk.alloc _).drew.grown hg5 (fun e=>HXX.out.pb e.symm);have y3:w5.cell? ⟨b,8,none⟩=some xx.pending:=hb5.cell 8;have y3f:w5.frozen? ⟨b,8,none⟩=false:=hb5.frozen 8;have HO5:=Lib.hid ho5;have HG5:=Lib.hid hg5;have HK5:=Lib.hid hk5;clear ho5 hg5 hk5 hb5)
     all_goals
      go_wp2_with fail
      go_meet
      have h1:=HXX.out.pend_ HMX.out (((Below.refl _ _).alloc (Nat.le_refl _) _).drew) HG5.out HO5.out (HK5.out.imp id .inl)
      have h2:=FcPost.trans HO1.out HS1.out (FcPost.of_below HB4.out h1)
      rw [HL.out,HQ2.out]
      first | exact h2 | (rw [List.length_append] at h2;exact h2)
   case rest =>
    obtain ⟨M2,hat2,hon2,hsub2⟩:=hcut
    have HA2:=Lib.hid hat2
    have HO2:=Lib.hid hon2
    have HS2:=Lib.hid hsub2
    have HSM:=Lib.hid (left_small HS.out keep torn)
    clear hat2 hon2 hsub2
    go_wp2_with fail
    refine (settle_any _ M2 b _ _ HA2.out HSM.out).mono ?_
    rintro e w6 ⟨rfl,hp6⟩
    obtain ⟨M3,hat3,hon3,hsub3⟩:=FcPost.trans HO2.out HS2.out hp6
    have HA3:=Lib.hid hat3
    have HO3:=Lib.hid hon3
    have HS3:=Lib.hid hsub3
    obtain ⟨x3,hX3,hM3⟩:=hat3
    have HX3:=Lib.hid hX3
    have HM3:=Lib.hid hM3
    have d7:w6.cell? ⟨b,7,none⟩=some (.pointer (some ⟨x3.dur,0,none⟩)):=hX3.blk.cell 7
    clear hp6 hon3 hsub3 hX3 hM3
    go_wp2_with fail
    refine (tclone_any _ x3.dur x3.df x3.du _ w6 HX3.out.dur).mono ?_
    rintro e w7 ⟨t7,rfl,hn7⟩
    have HN7:=Lib.hid (HX3.out.newhere HM3.out hn7)
    have hx7:=HX3.out.below hn7.1
    have d6:w7.cell? ⟨b,6,none⟩=some (.pointer (some ⟨x3.here,0,none⟩)):=hx7.blk.cell 6
    have d6f:w7.frozen? ⟨b,6,none⟩=false:=hx7.blk.frozen 6
    clear hn7 d7 hx7
    go_upto_region 10 with (fail)
    generalize w7.setCell ⟨b,6,none⟩ (.pointer (some ⟨t7,0,none⟩))=w8 at *
    obtain ⟨M4,hat4,hon4,hsub4⟩:=HN7.out
    have HO4:=Lib.hid hon4
    have HS4:=Lib.hid hsub4
    obtain ⟨x4,hX4,hM4⟩:=hat4
    have e3:w8.cell? ⟨b,3,none⟩=some (.bool false):=by rw [← HDN.out];exact hX4.blk.cell 3
    have e3f:w8.frozen? ⟨b,3,none⟩=false:=hX4.blk.frozen 3
    have HF:=Lib.hid (fc_cell (c':={ settleC { c with pending:=leftC c keep torn } with here:=(settleC { c with pending:=leftC c keep torn }).durable,down:=true }) 3 (.bool true) hX4 hM4 rfl rfl rfl rfl rfl rfl)
    clear hon4 hsub4 hX4 hM4 d6 d6f
    go_wp2_with fail
    go_end0
    rw [HC.out]
    exact ⟨rfl,FcPost.trans HO3.out HS3.out (FcPost.trans HO4.out HS4.out HF.out)⟩
end Go.Proofs.YtlkolcokjmlmjaaGreat.Tx
