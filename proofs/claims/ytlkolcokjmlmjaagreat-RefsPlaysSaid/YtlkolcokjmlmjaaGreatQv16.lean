/- Texts put together: VGt5, VGt6, VGs0, VGs1. -/
import Derived.Test.YtlkolcokjmlmjaaGreatQv13
import Derived.Test.YtlkolcokjmlmjaaGreatQv14
import Derived.Test.YtlkolcokjmlmjaaGreatQv15
import Derived.Shelf.AbstractIn
namespace Go.Proofs.YtlkolcokjmlmjaaGreat.Tx
open Go.RowKit Go.Maps Go.Sort Go.Shelf Go.Proofs.YtlkolcokjmlmjaaGreat.Sh

set_option maxRecDepth 100000 in
theorem tnew_any (F : Nat → Prop) (w : World) : Calls Tryz.prog 23 #[] w fun e w' => ∃ t', e = .returned (.pointer (some ⟨t', 0, none⟩)) ∧ NewTree F w w' t' [] := by
  have hmm:=@run_makeMap Tryz.prog
  go_enter Tryz.func23,Tryz.ntmps23
  go_wp2
  go_ret
  have b1:RowKit.Below w.heap.size w (w.alloc (.map #[] 0)):=(Below.refl _ _).alloc (Nat.le_refl _) _
  have b2:RowKit.Below w.heap.size w ((w.alloc (.map #[] 0)).alloc (.map #[] 0)):=b1.alloc b1.size _
  have b3:RowKit.Below w.heap.size w (((w.alloc (.map #[] 0)).alloc (.map #[] 0)).alloc (.cells #[.map (some w.heap.size),.map (some (w.heap.size+1)),.int .i64 0] 115)):=b2.alloc b2.size _
  have z1:(w.alloc (.map #[] 0)).heap.size=w.heap.size+1:=by simp
  have z2:((w.alloc (.map #[] 0)).alloc (.map #[] 0)).heap.size=w.heap.size+1+1:=by simp
  refine ⟨w.heap.size+1+1,rfl,b3,w.heap.size,w.heap.size+1,⟨?_,⟨.map [],?_,fun _=>rfl,fun r hr=>by cases hr⟩,⟨.map [],?_,fun _=>⟨rfl,rfl⟩⟩,by omega,List.Pairwise.nil⟩,?_⟩
  · have := Blk.new ((w.alloc (.map #[] 0)).alloc (.map #[] 0)) 115 #[.map (some w.heap.size), .map (some (w.heap.size + 1)), .int .i64 0]
    rw [z2] at this
    exact this
  · exact ((World.ownsMap_made w Tryz.prog 9 hv).alloc _).alloc _
  · have := (World.ownsMap_made (H := Unit) (w.alloc (.map #[] 0)) Tryz.prog 9 (plainElem Tryz.prog 3)).alloc (.cells #[.map (some w.heap.size), .map (some (w.heap.size + 1)), .int .i64 0] 115)
    rw [z1] at this
    exact this
  · rintro k (rfl | rfl | rfl) <;> omega

def prefB (s p:List UInt8):Bool:=decide (p.length≤s.length)&&(s.take p.length==p)
set_option maxRecDepth 100000 in
theorem pref0_any (s p : List UInt8) (w : World) (hp : p.length ≤ 1000000) : Calls Tryz.prog 156 #[.string (str s), .string (str p)] w fun e w' => e = .returned (.bool (prefB s p)) ∧ w = w' := by
  have z1:=str_size s
  have z2:=str_size p
  obtain ⟨l,hl⟩:∃ l,s.length=l:=⟨_,rfl⟩
  obtain ⟨m,hm⟩:∃ m,p.length=m:=⟨_,rfl⟩
  rw [hl] at z1
  rw [hm] at z2 hp
  have he:(((str s).extract 0 m).toList==(str p).toList)=(s.take m==p):=by rw [slice_str,List.drop_zero,str_toList,str_toList]
  by_cases h:m≤l
  · have HP : Hid (prefB s p = (s.take m == p)) := by unfold Hid prefB; rw [hl, hm, decide_eq_true h]; rfl
    have h':(m:Int)≤(l:Int):=by omega
    have h0:(0:Int)≤(m:Int):=by omega
    generalize (s.take m==p)=bb at *
    clear hl hm
    go_enter Tryz.func156,Tryz.ntmps156
    go_wp2
    go_ret
    exact ⟨by rw [HP.out];rfl,rfl⟩
  · have HP : Hid (prefB s p = false) := by unfold Hid prefB; rw [hl, hm, decide_eq_false h]; rfl
    have h':¬ (m:Int)≤(l:Int):=by omega
    have h2:(l:Int)<(m:Int):=by omega
    clear hl hm he
    go_enter Tryz.func156,Tryz.ntmps156
    go_wp2
    go_ret
    exact ⟨by rw [HP.out];rfl,rfl⟩
theorem pref_any (s p : List UInt8) (w : World) (hp : p.length ≤ 1000000) : Calls Tryz.prog 137 #[.string (str s), .string (str p)] w fun e w' => e = .returned (.bool (prefB s p)) ∧ w = w' := by
  have H:=Lib.hid (fun w=>pref0_any s p w hp)
  go_enter Tryz.func137,Tryz.ntmps137
  go_wp2_with (go_at_call 156;refine (H.out _).mono ?_;rintro e w' ⟨rfl,rfl⟩)
  go_ret
  exact ⟨rfl,rfl⟩

theorem sortsK (m : Nat) : AnyZ.SortsIn Tryz.prog Tryz.sortedA_ren Fence.wide m :=
  ⟨fun blk off cap ss W hH hblk hsz=>callsIn_wide.2 (AnyM.slices_Sort_string Tryz.sortA blk off cap ss W hH hblk hsz),
   fun p cap W=>callsIn_wide.2 (AnyM.slices_Sort_string_none Tryz.sortA p cap W)⟩
theorem keys_call (b : Nat) (w : World) : Calls Tryz.prog 136 #[.map (some b)] w fun e w' => e = .returned (.func (.func 160) #[] #[.pointer (some ⟨w.heap.size, 0, none⟩)]) ∧ w' = w.alloc (.cells #[.map (some b)] 112) :=
  (callsIn_wide (n:=5)).1 (AnyZ.keys_in Tryz.keysA Fence.wide 5 trivial rfl (some b) w)
set_option maxRecDepth 100000 in
theorem sorted_call (b n Bm : Nat) (D : DataW Value) (w : World) (hown : w.ownsMap Tryz.prog 9 hv b n D) (hBm : Bm < w.heap.size) (hm : w.cell? ⟨Bm, 0, none⟩ = some (.map (some b))) (hs : Maps.size D ≤ 1000000) :
    Calls Tryz.prog 135 #[.func (.func 160) #[] #[.pointer (some ⟨Bm, 0, none⟩)]] w fun e w' => ∃ (v : Value) (ss : List (List UInt8)), e = .returned v ∧ ss.Perm (strKeys D) ∧
      w'.ownsRow w.heap.size 9 1 v ss.length ((ss.mergeSort (fun x y=>decide (x≤y))).map encStr)∧(v=.slice none 0 0↔ss=[])∧RowKit.Below w.heap.size w w':=by
  have hseq : SeqGives Fence.wide 2 Tryz.prog 160 #[.pointer (some ⟨Bm, 0, none⟩)] encStr (fun ss => ss.Perm (strKeys D)) (Maps.size D) w :=
    AnyZ.keys_gives (ρ:=Tryz.keysA_ren) { Tryz.keysA with } Fence.wide _ trivial rfl (by omega) Bm b n D w hBm hm hown
  have cS:=AnyZ.sorted_in Tryz.sortedA Fence.wide 5 trivial trivial trivial trivial rfl (by omega) (sortsK _) (enters_of Tryz.func159 (by kernel_rfl) rfl) 160 #[.pointer (some ⟨Bm,0,none⟩)] trivial (enters_of Tryz.func160 (by kernel_rfl) rfl) _ _ (by unfold maxLen;omega) (by omega) w hseq
  change CallsIn _ _ Tryz.prog 135 _ _ _ at cS
  exact callsIn_wide.1 cS
theorem bl_lt : ∀ {a b : List UInt8}, bl a b = true → a < b
  | [],[],h=>by cases h
  | [],y::b,_=>List.nil_lt_cons y b
  | x::a,[],h=>by rw [bl_nil] at h;cases h
  | x :: a, y :: b, h => by
    rw [bl_cons,Bool.or_eq_true,Bool.and_eq_true] at h
    rcases h with h | ⟨h1,h2⟩
    · exact List.cons_lt_cons_iff.2 (.inl (of_decide_eq_true h))
    · exact List.cons_lt_cons_iff.2 (.inr ⟨beq_iff_eq.1 h1,bl_lt h2⟩)
theorem sort_ord {R : List RowM} (h : Ord R) {ss : List (List UInt8)} (hp : ss.Perm (R.map fun r => r.path)) : ss.mergeSort (fun x y => decide (x ≤ y)) = pathsM R := by
  have e:ss.mergeSort (fun x y=>decide (x≤y))=(R.map fun r=>r.path).mergeSort (fun x y=>decide (x≤y)):=mergeSort_of_perm hp
  rw [e]
  refine List.mergeSort_of_pairwise (List.pairwise_map.2 (h.imp fun {a b} hab=>?_))
  exact decide_eq_true (List.le_of_lt (bl_lt hab))
end Go.Proofs.YtlkolcokjmlmjaaGreat.Tx
namespace Go.Proofs.YtlkolcokjmlmjaaGreat.Tx
open Go.RowKit Go.Maps Go.Sort Go.Shelf Go.Proofs.YtlkolcokjmlmjaaGreat.Sh
def hitC (dir p:List UInt8):Bool:=decide (dir=[])||prefB p (dir++[47])
def listC (R:List RowM) (dir:List UInt8):List (List UInt8):=(pathsM R).filter (hitC dir)
theorem filter_next {l:List (List UInt8)} {k:Nat} {q:List UInt8} (h:l[k]?=some q) (f:List UInt8→Bool):(l.take (k+1)).filter f=(l.take k).filter f++if f q=true then [q] else []:=by
 rw [List.take_add_one,h,List.filter_append]
 congr 1
 show [q].filter f=_
 by_cases hf:f q=true
 ·rw [if_pos hf,List.filter_cons,if_pos hf];rfl
 ·rw [if_neg hf,List.filter_cons,if_neg hf];rfl
theorem encS (l:List (List UInt8)):l.map encStr=(l.map str).map sv:=by
 rw [List.map_map]
 rfl
theorem cat_sign (d:List UInt8):str d++⟨#[47]⟩=str (d++[47]):=by
 apply ByteArray.ext
 simp [str]
set_option maxRecDepth 100000 in
set_option maxHeartbeats 6400000 in
theorem tpaths_any (F : Nat → Prop) (t bf bu : Nat) (R : List RowM) (dir : List UInt8) (w : World) (h : TreeX F w t R bf bu) (hR : R.length ≤ 1000000) (hd : dir.length ≤ 900000) :
  Calls Tryz.prog 104 #[.pointer (some ⟨t,0,none⟩),.string (str dir)] w (TextsPost w ((listC R dir).map str)):=by
 have c0:w.cell? ⟨t,0,none⟩=some (.map (some bf)):=h.blk.cell 0
 have HX:=Lib.hid h
 have HR:=Lib.hid hR
 obtain ⟨D,hown,hfo⟩:=h.files
 obtain ⟨hpk,hsz⟩:=hfo.keys hown h.ord
 have HOWN:=Lib.hid hown
 have HPK:=Lib.hid hpk
 have HSZ:=Lib.hid hsz
 clear h hR hown hfo hpk hsz
 go_enter Tryz.func104,Tryz.ntmps104
 go_wp2_with fail
 refine (keys_call bf _).mono ?_
 rintro e w1 ⟨rfl,hw1⟩
 have hb1:RowKit.Below w.heap.size w w1:=by rw [hw1];exact (Below.refl _ _).alloc (Nat.le_refl _) _
 have hz1:w.heap.size<w1.heap.size:=by rw [hw1];simp
 have hc1:w1.cell? ⟨w.heap.size,0,none⟩=some (.map (some bf)):=by rw [hw1];exact (Blk.new w 112 #[.map (some bf)]).cell 0
 have HB1:=Lib.hid hb1
 have HZ1:=Lib.hid hz1
 have HC1:=Lib.hid hc1
 have HO1:=Lib.hid (own_only HOWN.out (Only.of_below (M:=fun _=>False) hb1) id)
 clear hw1 hb1 hz1 hc1
 go_wp2_with fail
 refine (sorted_call bf _ w.heap.size D w1 HO1.out HZ1.out HC1.out (by rw [HSZ.out];exact HR.out)).mono ?_
 rintro e w2 ⟨v,ss,rfl,hS,hrow,_,hb2⟩
 have hss:ss.Perm (R.map fun r=>r.path):=hS.trans HPK.out.symm
 rw [sort_ord HX.out.ord hss,encS] at hrow
 have hl2:ss.length=((pathsM R).map str).length:=by rw [hss.length_eq];simp [pathsM]
 rw [hl2] at hrow
 have hov:OwnV 9 w2 w1.heap.size v (((pathsM R).map str).map sv):=by
  have:=hrow
  rw [show ((pathsM R).map str).length=(((pathsM R).map str).map sv).length from by simp] at this
  exact this
 obtain ⟨pA,pc,rfl,pl1,pl2⟩:=hov.length
 simp only [List.length_map] at pl1 ⊢
 obtain ⟨m,hm⟩:∃ m,(pathsM R).length=m:=⟨_,rfl⟩
 have hmR:m≤1000000:=by rw [← hm];have:=HR.out;simp [pathsM];omega
 rw [hm] at pl1 ⊢
 have HP:=Lib.hid hov
 have HMM:=Lib.hid hm
 have HB2:=Lib.hid (HB1.out.trans (hb2.mono HB1.out.size))
 clear hss hrow hl2 hov hm hb2 hS c0
 go_wp2_with fail
 go_loopw [5,15] (fun v i wr=>∃ k:Nat,k≤m∧i=.int .i64 k∧OwnV 9 wr w2.heap.size v (((((pathsM R).take k).filter (hitC dir)).map str).map sv)∧RowKit.Below w2.heap.size w2 wr) (fun _ i _=>m - (intOf i).toNat)
 case atStart=>exact ⟨0,by omega,rfl,OwnV.nil_ _ _,Below.refl _ _⟩
 case round =>
  obtain ⟨k,hk,rfl,ho,hbe⟩:=hrel
  have k0:(0:Int)≤(k:Int):=by omega
  have HBE:=Lib.hid hbe
  have HO:=Lib.hid ho
  have hwz:=hbe.size
  by_cases hlt:k<m
  ·have k1:(k:Int)<(m:Int):=by omega
   have k2:(k:Int)≤(m:Int):=by omega
   have hkm:k<(pathsM R).length:=by rw [HMM.out];exact hlt
   obtain ⟨q,hq⟩:∃ q,(pathsM R)[k]=q:=⟨_,rfl⟩
   have hqk:(pathsM R)[k]?=some q:=by rw [List.getElem?_eq_getElem hkm,hq]
   have hov:=HP.out.below hbe
   obtain ⟨A',c',he,_,_,hrd⟩:=hov.slv.len
   injection he with he1 he2 he3
   subst he1
   clear he2 he3
   simp only [List.length_map] at hrd
   have hkm':k<((pathsM R).map str).length:=by rw [List.length_map];exact hkm
   have hta:=texts_at (xs:=(pathsM R).map str) (by simpa using hrd) k hkm'
   obtain ⟨ad,rfl,hcell⟩:=hta
   have hcell2:wr.cell? (ad.add k)=some (.string (str q)):=by rw [hcell];simp [hq]
   have HQK:=Lib.hid hqk
   have hsm:((((pathsM R).take k).filter (hitC dir)).map str).length+1≤2000000:=by
    rw [List.length_map]
    have h1:=List.length_filter_le (hitC dir) ((pathsM R).take k)
    rw [List.length_take] at h1
    omega
   clear hov hrd hkm' hcell hq hqk hkm ho hbe
   obtain ⟨hb,hhb⟩:∃ hb,hitC dir q=hb:=⟨_,rfl⟩
   have HHB:=Lib.hid hhb
   clear hhb
   go_upto_region 5 with (fail)
   go_cut [26] (fun c wx=>c=.bool hb∧wr=wx)
   case first =>
    by_cases hde:dir=[]
    ·have HT:Hid (hb=true):=by have h:=HHB.out;unfold Hid;rw [← h];unfold hitC;rw [decide_eq_true hde];rfl
     obtain ⟨z2,z3⟩:=str_nil hde
     clear hde
     go_wp2_with fail
     go_meet
     exact ⟨by rw [HT.out],rfl⟩
    ·have HT:Hid (prefB q (dir++[47])=hb):=by have h:=HHB.out;unfold Hid;rw [← h];unfold hitC;rw [decide_eq_false hde];rfl
     obtain ⟨z2,z3⟩:=str_some hde
     have z4:=str_size dir
     obtain ⟨ld,hld⟩:∃ ld,dir.length=ld:=⟨_,rfl⟩
     have HLD:=Lib.hid hld
     rw [hld] at z4 hd
     have z5:=cat_sign dir
     clear hde hld
     go_wp2_with fail
     refine (pref_any q (dir++[47]) _ (by rw [List.length_append,HLD.out];simp;omega)).mono ?_
     rintro e w3 ⟨rfl,rfl⟩
     rw [HT.out]
     go_wp2_with fail
     go_meet
     exact ⟨rfl,rfl⟩
   case rest =>
    obtain ⟨rfl,rfl⟩:=hcut
    cases hb with
    | false =>
     have HN:Hid (((pathsM R).take (k+1)).filter (hitC dir)=((pathsM R).take k).filter (hitC dir)):=by unfold Hid;rw [filter_next HQK.out,if_neg (by rw [HHB.out];decide),List.append_nil]
     go_wp2_with fail
     go_roundw
     case rel=>exact ⟨k+1,by omega,by go_num,by rw [HN.out];exact HO.out,HBE.out⟩
     case measure=>simp [intOf];omega
    | true =>
     have HN:Hid (((pathsM R).take (k+1)).filter (hitC dir)=((pathsM R).take k).filter (hitC dir)++[q]):=by unfold Hid;rw [filter_next HQK.out,if_pos HHB.out]
     go_wp2_with (at_builtin;refine append_text rfl (.tmp 27) (.tmp 29) rfl wr w2.heap.size u5 ((((pathsM R).take k).filter (hitC dir)).map str) rfl HO.out (str q) rfl hsm hwz ?_;intro v3 w3 ho3 hb3;have HO3:=Lib.hid ho3;have HB3:=Lib.hid hb3;clear ho3 hb3)
     go_roundw
     case rel =>
      refine ⟨k+1,by omega,by go_num,?_,HBE.out.trans (HB3.out.mono (Nat.le_refl _))⟩
      rw [HN.out]
      simpa using HO3.out
     case measure=>simp [intOf];omega
  ·obtain rfl:k=m:=by omega
   have hfin:OwnV 9 wr w2.heap.size u5 (((listC R dir).map str).map sv):=by
    have:=HO.out
    rw [List.take_of_length_le (Nat.le_of_eq HMM.out)] at this
    exact this
   have HFIN:=Lib.hid hfin
   clear hfin ho hbe
   go_wp2_with fail
   go_ret
   exact ⟨u5,rfl,HFIN.out.base HB2.out.size,HB2.out.trans (HBE.out.mono HB2.out.size)⟩
end Go.Proofs.YtlkolcokjmlmjaaGreat.Tx
namespace Go.Proofs.YtlkolcokjmlmjaaGreat.Tx
open Go.RowKit Go.Maps Go.Proofs.YtlkolcokjmlmjaaGreat.Sh
def chK:Shape where
 α:=ChM
 cells:=fun c d=>[.string (str c.gone),.string (str c.path),.int .i64 c.f.mode,d,.int .i64 c.f.time]
 data:=fun c=>c.f.data
 m:=5
 pos:=by decide
 len:=fun _ _=>rfl
 one:=fun a d hd u hu=>by
  simp only [List.mem_cons,List.not_mem_nil,or_false] at hu
  rcases hu with rfl | rfl | rfl | rfl | rfl <;> first | rfl | exact hd
theorem typed_ch:Typed Tryz.prog chK 133 66 (.agg #[.string ⟨#[]⟩,.string ⟨#[]⟩,.int .i64 0,.slice none 0 0,.int .i64 0]) 72:=⟨by kernel_rfl,Tryz.underlying66,rfl,by decide⟩
theorem typed_fe:Typed Tryz.prog evK 109 33 (.agg #[.int .i64 0,.int .i64 0,.int .i64 0,.int .i64 0,.int .i64 0,.string ⟨#[]⟩,.slice none 0 0]) 80:=⟨by kernel_rfl,Tryz.underlying33,rfl,by decide⟩
structure CSt where
 room:Int
 calls:Int
 time:Int
 down:Bool
 plan:List EvM
 users:List EvM
 here:List RowM
 durable:List RowM
 pending:List ChM
structure FcV where
 plan:Value
 users:Value
 here:Nat
 dur:Nat
 pending:Value
 hf:Nat
 hu:Nat
 df:Nat
 du:Nat
def fcC (c:CSt) (x:FcV):Array Value:=#[.int .i64 c.room,.int .i64 c.calls,.int .i64 c.time,.bool c.down,x.plan,x.users,.pointer (some ⟨x.here,0,none⟩),.pointer (some ⟨x.dur,0,none⟩),x.pending]
def FcV.hm (x:FcV):Nat→Prop:=treeM x.here x.hf x.hu
def FcV.dm (x:FcV):Nat→Prop:=treeM x.dur x.df x.du
def fcM (b:Nat) (x:FcV):Nat→Prop:=fun k=>k=b∨x.hm k∨x.dm k∨x.pending.ownBlock=some k∨x.users.ownBlock=some k
structure FcX (F:Nat→Prop) (w:World) (b:Nat) (c:CSt) (x:FcV):Prop where
 blk:Blk w b 68 (fcC c x)
 here:TreeX F w x.here c.here x.hf x.hu
 dur:TreeX F w x.dur c.durable x.df x.du
 pending:OwnL chK 133 F w 0 x.pending c.pending
 plan:InL evK F w x.plan c.plan
 users:OwnL evK 109 F w 0 x.users c.users
 self:∀ k,F k→¬ fcM b x k
 low:∀ k,F k→k<w.heap.size
 apart:∀ k,x.hm k→¬ x.dm k
theorem OwnL.blk {K:Shape} {T:TypeId} {F:Nat→Prop} {w:World} {B:Nat} {v:Value} {l:List K.α} (h:OwnL K T F w B v l) {k:Nat} (hk:v.ownBlock=some k):∃ cs,Blk w k T cs:=by
 obtain ⟨⟨ds,h1,_⟩,_⟩:=h
 rcases h1.2 with ⟨rfl,_⟩ | ⟨g,cap,cur,rfl,_,hg,_⟩
 ·cases hk
 ·have e:g=k:=by simpa [Value.ownBlock] using hk
  exact ⟨cur,e ▸ hg⟩
theorem TreeX.not_cells {F:Nat→Prop} {w:World} {t bf bu:Nat} {R:List RowM} (h:TreeX F w t R bf bu) {g:Nat} {T:TypeId} {cs:Array Value} (hg:Blk w g T cs) (hT:T≠115):¬ treeM t bf bu g:=by
 obtain ⟨D,h1,_⟩:=h.files
 obtain ⟨E,h3,_⟩:=h.under
 rintro (e | e | e)
 ·exact hg.ne_ h.blk hT e
 ·exact own_cells h1 hg e.symm
 ·exact own_cells h3 hg e.symm
section
variable {F F' M:Nat→Prop} {w w' wf:World} {b:Nat} {c c':CSt} {x x':FcV}
theorem FcX.hb (h:FcX F w b c x):¬ x.hm b:=h.here.not_cells h.blk (by decide)
theorem FcX.db (h:FcX F w b c x):¬ x.dm b:=h.dur.not_cells h.blk (by decide)
theorem FcX.pb (h:FcX F w b c x):x.pending.ownBlock≠some b:=fun e=>by
 obtain ⟨cs,hc⟩:=h.pending.blk e
 exact hc.ne_ h.blk (by decide) rfl
theorem FcX.ub (h:FcX F w b c x):x.users.ownBlock≠some b:=fun e=>by
 obtain ⟨cs,hc⟩:=h.users.blk e
 exact hc.ne_ h.blk (by decide) rfl
theorem FcX.hp (h:FcX F w b c x) (k:Nat) (hk:x.hm k):x.pending.ownBlock≠some k:=fun e=>by
 obtain ⟨cs,hc⟩:=h.pending.blk e
 exact h.here.not_cells hc (by decide) hk
theorem FcX.hu' (h:FcX F w b c x) (k:Nat) (hk:x.hm k):x.users.ownBlock≠some k:=fun e=>by
 obtain ⟨cs,hc⟩:=h.users.blk e
 exact h.here.not_cells hc (by decide) hk
theorem FcX.dp (h:FcX F w b c x) (k:Nat) (hk:x.dm k):x.pending.ownBlock≠some k:=fun e=>by
 obtain ⟨cs,hc⟩:=h.pending.blk e
 exact h.dur.not_cells hc (by decide) hk
theorem FcX.du' (h:FcX F w b c x) (k:Nat) (hk:x.dm k):x.users.ownBlock≠some k:=fun e=>by
 obtain ⟨cs,hc⟩:=h.users.blk e
 exact h.dur.not_cells hc (by decide) hk
theorem FcX.pu (h:FcX F w b c x) (k:Nat) (hk:x.pending.ownBlock=some k):x.users.ownBlock≠some k:=fun e=>by
 obtain ⟨cs,hc⟩:=h.pending.blk hk
 obtain ⟨cs',hc'⟩:=h.users.blk e
 exact hc.ne_ hc' (by decide) rfl
theorem FcX.lt (h:FcX F w b c x) (k:Nat) (hk:fcM b x k):k<w.heap.size:=by
 rcases hk with rfl | e | e | e | e
 ·exact h.blk.lt
 ·exact h.here.lt k e
 ·exact h.dur.lt k e
 ·exact (h.pending.lt k e).2
 ·exact (h.users.lt k e).2
theorem FcX.only (h:FcX F w b c x) (ho:Only M w w') (hF:∀ k,F k→¬ M k) (hM:∀ k,fcM b x k→¬ M k):FcX F w' b c x :=
 ⟨ho.blk h.blk (hM b (.inl rfl)),h.here.only ho hF (fun k hk=>hM k (.inr (.inl hk))),h.dur.only ho hF (fun k hk=>hM k (.inr (.inr (.inl hk)))),h.pending.only ho hF (fun k hk=>hM k (.inr (.inr (.inr (.inl hk))))),h.plan.only ho hF,
  h.users.only ho hF (fun k hk=>hM k (.inr (.inr (.inr (.inr hk))))),h.self,fun k hk=>Nat.lt_of_lt_of_le (h.low k hk) ho.size,h.apart⟩
theorem FcX.below (h:FcX F w b c x) (hb:Below w.heap.size w w'):FcX F w' b c x:=h.only (Only.of_below (M:=fun _=>False) hb) (fun _ _=>id) (fun _ _=>id)
theorem FcX.mono (h:FcX F w b c x) (hF:∀ k,F k→F' k) (hn:∀ k,F' k→¬ fcM b x k) (hl:∀ k,F' k→k<w.heap.size):FcX F' w b c x :=
 ⟨h.blk,h.here.mono (fun k _=>hF k),h.dur.mono (fun k _=>hF k),h.pending.mono (fun k _=>hF k) (fun k hk hf=>hn k hf (.inr (.inr (.inr (.inl hk))))),h.plan.mono (fun k _=>hF k),h.users.mono (fun k _=>hF k) (fun k hk hf=>hn k hf (.inr (.inr (.inr (.inr hk))))),hn,hl,h.apart⟩
def FcAt (F:Nat→Prop) (w:World) (b:Nat) (c:CSt) (M:Nat→Prop):Prop:=∃ x,FcX F w b c x∧∀ k,M k↔fcM b x k
def FcPost (F M:Nat→Prop) (w:World) (b:Nat) (c':CSt) (w':World):Prop:=∃ M',FcAt (grow F w w' M') w' b c' M'∧Only M w w'∧∀ k,M' k→M k∨w.heap.size≤k
theorem FcPost.refl (h:FcAt F w b c M):FcPost F M w b c w:=by
 obtain ⟨x,h1,h2⟩:=h
 refine ⟨M,⟨x,h1.mono (fun k hk=>.inl hk) (fun k hk=>?_) (fun k hk=>?_),h2⟩,Only.refl M w,fun k hk=>.inl hk⟩
 ·rcases hk with hk | ⟨g1,g2,_⟩
  ·exact h1.self k hk
  ·omega
 ·rcases hk with hk | ⟨g1,g2,_⟩
  ·exact h1.low k hk
  ·omega
theorem FcPost.trans {w1 w2:World} {c2:CSt} {M1:Nat→Prop} (h01:Only M w w1) (hM:∀ k,M1 k→M k∨w.heap.size≤k) (h:FcPost (grow F w w1 M1) M1 w1 b c2 w2):FcPost F M w b c2 w2:=by
 obtain ⟨M2,⟨x,h1,h2⟩,h3,h4⟩:=h
 have hM2:∀ k,M2 k→M k∨w.heap.size≤k:=fun k hk=>by
  rcases h4 k hk with h5 | h5
  ·exact hM k h5
  ·have:=h01.size;right;omega
 refine ⟨M2,⟨x,h1.mono (F':=grow F w w2 M2) (fun k hk=>grow_grow h3.size h01.size h4 hk) (fun k hk hm=>?_) (fun k hk=>?_),h2⟩,h01.trans h3 hM,hM2⟩
 ·rcases hk with hk | ⟨_,_,g3⟩
  ·exact h1.self k (.inl (.inl hk)) hm
  ·exact g3 ((h2 k).2 hm)
 ·rcases hk with hk | ⟨_,g2,_⟩
  ·exact h1.low k (.inl (.inl hk))
  ·exact g2
theorem FcAt.below (h:FcAt F w b c M) (hb:Below w.heap.size w w'):FcAt F w' b c M:=by
 obtain ⟨x,h1,h2⟩:=h
 exact ⟨x,h1.below hb,h2⟩
theorem FcAt.only {Z:Nat→Prop} (h:FcAt F w b c M) (ho:Only Z w w') (hF:∀ k,F k→¬ Z k) (hM:∀ k,M k→¬ Z k):FcAt F w' b c M:=by
 obtain ⟨x,h1,h2⟩:=h
 exact ⟨x,h1.only ho hF (fun k hk=>hM k ((h2 k).2 hk)),h2⟩
theorem FcPost.of_below {w1:World} (hb:Below w.heap.size w w1) (h:FcPost F M w1 b c' w'):FcPost F M w b c' w':=by
 obtain ⟨M2,⟨x,h1,h2⟩,h3,h4⟩:=h
 have hz:=hb.size
 refine ⟨M2,⟨x,h1.mono (F':=grow F w w' M2) (fun k hk=>?_) (fun k hk hm=>?_) (fun k hk=>?_),h2⟩,(Only.of_below hb).trans h3 (fun _ hk=>.inl hk),fun k hk=>(h4 k hk).imp id (fun h=>by omega)⟩
 ·rcases hk with hk | ⟨g1,g2,g3⟩
  ·exact .inl hk
  ·exact .inr ⟨by omega,g2,g3⟩
 ·rcases hk with hk | ⟨_,_,g3⟩
  ·exact h1.self k (.inl hk) hm
  ·exact g3 ((h2 k).2 hm)
 ·rcases hk with hk | ⟨_,g2,_⟩
  ·exact h1.low k (.inl hk)
  ·exact g2
theorem FcPost.then_below {w1:World} (h:FcPost F M w b c' w1) (hb:Below w1.heap.size w1 w'):FcPost F M w b c' w':=by
 obtain ⟨M2,h1,h3,h4⟩:=h
 exact FcPost.trans h3 h4 (FcPost.of_below hb (FcPost.refl (h1.below hb)))
theorem fc_fin (hX : FcX F w b c x) (hM : ∀ k, M k ↔ fcM b x k) (ow : Only (fcM b x) w wf) (hM' : ∀ k, fcM b x' k → fcM b x k ∨ w.heap.size ≤ k)
  (blk:Blk wf b 68 (fcC c' x')) (here:TreeX (grow F w wf (fcM b x')) wf x'.here c'.here x'.hf x'.hu) (dur:TreeX (grow F w wf (fcM b x')) wf x'.dur c'.durable x'.df x'.du) (pending:OwnL chK 133 (grow F w wf (fcM b x')) wf 0 x'.pending c'.pending)
  (plan:InL evK (grow F w wf (fcM b x')) wf x'.plan c'.plan) (users:OwnL evK 109 (grow F w wf (fcM b x')) wf 0 x'.users c'.users) (apart:∀ k,x'.hm k→¬ x'.dm k):FcPost F M w b c' wf:=by
 refine ⟨fcM b x',⟨x',⟨blk,here,dur,pending,plan,users,?_,?_,apart⟩,fun k=>Iff.rfl⟩,ow.more (fun k _ h=>(hM k).2 h),fun k h=>(hM' k h).imp (hM k).2 id⟩
 ·rintro k (h | ⟨_,_,h⟩) hm
  ·rcases hM' k hm with h1 | h1
   ·exact hX.self k h h1
   ·have:=hX.low k h;omega
  ·exact h hm
 ·rintro k (h | ⟨_,h,_⟩)
  ·have:=hX.low k h;have:=ow.size;omega
  ·exact h
theorem FcX.hereG {Z M':Nat→Prop} (hX:FcX F w b c x) (ow:Only Z w wf) (hF:∀ k,F k→¬ Z k) (hn:∀ k,x.hm k→¬ Z k):TreeX (grow F w wf M') wf x.here c.here x.hf x.hu:=(hX.here.only ow hF hn).mono (fun _ _ h=>.inl h)
theorem FcX.durG {Z M':Nat→Prop} (hX:FcX F w b c x) (ow:Only Z w wf) (hF:∀ k,F k→¬ Z k) (hn:∀ k,x.dm k→¬ Z k):TreeX (grow F w wf M') wf x.dur c.durable x.df x.du:=(hX.dur.only ow hF hn).mono (fun _ _ h=>.inl h)
theorem FcX.planG {Z M':Nat→Prop} (hX:FcX F w b c x) (ow:Only Z w wf) (hF:∀ k,F k→¬ Z k):InL evK (grow F w wf M') wf x.plan c.plan:=(hX.plan.only ow hF).mono (fun _ _ h=>.inl h)
theorem FcX.pendG {Z M':Nat→Prop} (hX:FcX F w b c x) (ow:Only Z w wf) (hF:∀ k,F k→¬ Z k) (hn:∀ k,x.pending.ownBlock=some k→¬ Z k) (hM':∀ k,x.pending.ownBlock=some k→M' k):OwnL chK 133 (grow F w wf M') wf 0 x.pending c.pending :=
 (hX.pending.only ow hF hn).toG (fun _ _ h=>.inl h) hM' hX.pending.2
theorem FcX.usersG {Z M':Nat→Prop} (hX:FcX F w b c x) (ow:Only Z w wf) (hF:∀ k,F k→¬ Z k) (hn:∀ k,x.users.ownBlock=some k→¬ Z k) (hM':∀ k,x.users.ownBlock=some k→M' k):OwnL evK 109 (grow F w wf M') wf 0 x.users c.users :=
 (hX.users.only ow hF hn).toG (fun _ _ h=>.inl h) hM' hX.users.2
theorem FcX.Fb (hX:FcX F w b c x) (k:Nat) (hk:F k):¬ (k=b):=fun e=>hX.self k hk (.inl e)
theorem fc_cell (i:Nat) (u:Value) (hX:FcX F w b c x) (hM:∀ k,M k↔fcM b x k) (hc:(fcC c x).setIfInBounds i u=fcC c' x) (h1:c'.here=c.here) (h2:c'.durable=c.durable) (h3:c'.pending=c.pending) (h4:c'.plan=c.plan) (h5:c'.users=c.users):FcPost F M w b c' (w.setCell ⟨b,i,none⟩ u):=by
 have ow:Only (fun k=>k=b) w (w.setCell ⟨b,i,none⟩ u):=Only.set_ (M:=fun k=>k=b) (g:=b) (i:=i) (Only.refl _ w) (.inl rfl) u
 refine fc_fin (x':=x) hX hM (ow.more (fun k _ e=>.inl e)) (fun k hk=>.inl hk) (by rw [← hc];exact hX.blk.set_ i u) ?_ ?_ ?_ ?_ ?_ hX.apart
 ·rw [h1];exact hX.hereG ow hX.Fb (fun k hk e=>hX.hb (e ▸ hk))
 ·rw [h2];exact hX.durG ow hX.Fb (fun k hk e=>hX.db (e ▸ hk))
 ·rw [h3];exact hX.pendG ow hX.Fb (fun k hk e=>hX.pb (e ▸ hk)) (fun k hk=>.inr (.inr (.inr (.inl hk))))
 ·rw [h4];exact hX.planG ow hX.Fb
 ·rw [h5];exact hX.usersG ow hX.Fb (fun k hk e=>hX.ub (e ▸ hk)) (fun k hk=>.inr (.inr (.inr (.inr hk))))
end
end Go.Proofs.YtlkolcokjmlmjaaGreat.Tx
namespace Go.Proofs.YtlkolcokjmlmjaaGreat.Tx
open Go.RowKit Go.Maps Go.Proofs.YtlkolcokjmlmjaaGreat.Sh
section
variable {F F' M:Nat→Prop} {w w' wf:World} {b:Nat} {c c':CSt} {x x':FcV}
theorem FcX.cell (hX:FcX F w b c x) (i:Nat) (u:Value) (hc:(fcC c x).setIfInBounds i u=fcC c' x) (h1:c'.here=c.here) (h2:c'.durable=c.durable) (h3:c'.pending=c.pending) (h4:c'.plan=c.plan) (h5:c'.users=c.users):FcX F (w.setCell ⟨b,i,none⟩ u) b c' x:=by
 have ow:Only (fun k=>k=b) w (w.setCell ⟨b,i,none⟩ u):=Only.set_ (M:=fun k=>k=b) (g:=b) (i:=i) (Only.refl _ w) (.inl rfl) u
 refine ⟨by rw [← hc];exact hX.blk.set_ i u,?_,?_,?_,?_,?_,hX.self,fun k hk=>Nat.lt_of_lt_of_le (hX.low k hk) ow.size,hX.apart⟩
 ·rw [h1];exact hX.here.only ow hX.Fb (fun k hk e=>hX.hb (e ▸ hk))
 ·rw [h2];exact hX.dur.only ow hX.Fb (fun k hk e=>hX.db (e ▸ hk))
 ·rw [h3];exact hX.pending.only ow hX.Fb (fun k hk e=>hX.pb (e ▸ hk))
 ·rw [h4];exact hX.plan.only ow hX.Fb
 ·rw [h5];exact hX.users.only ow hX.Fb (fun k hk e=>hX.ub (e ▸ hk))
theorem FcX.Fh (hX:FcX F w b c x) (k:Nat) (hk:F k):¬ treeM x.here x.hf x.hu k:=fun e=>hX.self k hk (.inr (.inl e))
theorem FcX.Fd (hX:FcX F w b c x) (k:Nat) (hk:F k):¬ treeM x.dur x.df x.du k:=fun e=>hX.self k hk (.inr (.inr (.inl e)))
theorem FcX.here_ (hX:FcX F w b c x) {R:List RowM} (hT:TreeX F w' x.here R x.hf x.hu) (ow:Only (treeM x.here x.hf x.hu) w w'):FcX F w' b { c with here:=R } x :=
 ⟨ow.blk hX.blk hX.hb,hT,hX.dur.only ow hX.Fh (fun k hk e=>hX.apart k e hk),hX.pending.only ow hX.Fh (fun k hk e=>hX.hp k e hk),hX.plan.only ow hX.Fh,hX.users.only ow hX.Fh (fun k hk e=>hX.hu' k e hk),hX.self,fun k hk=>Nat.lt_of_lt_of_le (hX.low k hk) ow.size,hX.apart⟩
theorem FcX.dur_ (hX:FcX F w b c x) {R:List RowM} (hT:TreeX F w' x.dur R x.df x.du) (ow:Only (treeM x.dur x.df x.du) w w'):FcX F w' b { c with durable:=R } x :=
 ⟨ow.blk hX.blk hX.db,hX.here.only ow hX.Fd (fun k hk e=>hX.apart k hk e),hT,hX.pending.only ow hX.Fd (fun k hk e=>hX.dp k e hk),hX.plan.only ow hX.Fd,hX.users.only ow hX.Fd (fun k hk e=>hX.du' k e hk),hX.self,fun k hk=>Nat.lt_of_lt_of_le (hX.low k hk) ow.size,hX.apart⟩
theorem FcPost.of_only {w1:World} (h0:Only M w w1) (h:FcPost F M w1 b c' w'):FcPost F M w b c' w':=by
 obtain ⟨M2,⟨y,h1,h2⟩,h3,h4⟩:=h
 have hz:=h0.size
 refine ⟨M2,⟨y,h1.mono (F':=grow F w w' M2) (fun k hk=>?_) (fun k hk hm=>?_) (fun k hk=>?_),h2⟩,h0.trans h3 (fun _ hk=>.inl hk),fun k hk=>(h4 k hk).imp id (fun h=>by omega)⟩
 ·rcases hk with hk | ⟨g1,g2,g3⟩
  ·exact .inl hk
  ·exact .inr ⟨by omega,g2,g3⟩
 ·rcases hk with hk | ⟨_,_,g3⟩
  ·exact h1.self k (.inl hk) hm
  ·exact g3 ((h2 k).2 hm)
 ·rcases hk with hk | ⟨_,g2,_⟩
  ·exact h1.low k (.inl hk)
  ·exact g2
theorem FcX.pend_ (hX : FcX F w b c x) (hM : ∀ k, M k ↔ fcM b x k) {wl w5 : World} {v5 : Value} {p' : List ChM} (hl : Below w.heap.size w wl) (hg : wl.grownBy w5 x.pending.ownBlock) (hown : OwnL chK 133 F w5 0 v5 p') (hk : v5.ownBlock = x.pending.ownBlock ∨ v5.ownBlock = some wl.heap.size ∨ v5.ownBlock = none) :
  FcPost F M w b { c with pending:=p' } (w5.setCell ⟨b,8,none⟩ v5):=by
 have hz2:=hl.size
 have hz3:=hg.size
 have hbw:b<w.heap.size:=hX.blk.lt
 have o5:Only (fun k=>x.pending.ownBlock=some k) w w5:=(Only.of_below hl).trans (M':=fun k=>x.pending.ownBlock=some k) ⟨hg.os,hg.tape,hg.output,hg.size,fun k hk hn=>hg.block k hk (fun e=>hn e.symm)⟩ (fun k hk=>.inl hk)
 have ow:Only (fun k=>k=b∨x.pending.ownBlock=some k) w (w5.setCell ⟨b,8,none⟩ v5):=Only.set_ (M:=fun k=>k=b∨x.pending.ownBlock=some k) (g:=b) (i:=8) (o5.more (fun k _ h=>.inr h)) (.inl (.inl rfl)) v5
 have hF:∀ k,F k→¬ (k=b∨x.pending.ownBlock=some k):=fun k hk e=>by
  rcases e with e | e
  ·exact hX.Fb k hk e
  ·exact hX.pending.2 k e hk
 have hblk5:Blk w5 b 68 (fcC c x):=(hX.blk.below hl hbw).grown hg (fun e=>hX.pb e.symm)
 have hvb:v5.ownBlock≠some b:=fun e=>by
  obtain ⟨cs,hc⟩:=hown.blk e
  exact hc.ne_ hblk5 (by decide) rfl
 refine fc_fin (x':={ x with pending:=v5 }) hX hM (ow.more (fun k _ h=>?_)) (fun k hk'=>?_) (hblk5.set_ 8 v5) ?_ ?_ ?_ ?_ ?_ hX.apart
 ·rcases h with h | h
  ·exact .inl h
  ·exact .inr (.inr (.inr (.inl h)))
 ·rcases hk' with h | h | h | h | h
  ·exact .inl (.inl h)
  ·exact .inl (.inr (.inl h))
  ·exact .inl (.inr (.inr (.inl h)))
  ·have h':v5.ownBlock=some k:=h
   rcases hk with e | e | e
   ·exact .inl (.inr (.inr (.inr (.inl (by rw [← e];exact h')))))
   ·right
    rw [e] at h'
    injection h' with h'
    omega
   ·rw [e] at h';cases h'
  ·exact .inl (.inr (.inr (.inr (.inr h))))
 ·exact hX.hereG ow hF (fun k hk e => by
   rcases e with e | e
   ·exact hX.hb (e ▸ hk)
   ·exact hX.hp k hk e)
 ·exact hX.durG ow hF (fun k hk e => by
   rcases e with e | e
   ·exact hX.db (e ▸ hk)
   ·exact hX.dp k hk e)
 ·refine (hown.only (M:=fun k=>k=b) (Only.set_ (M:=fun k=>k=b) (g:=b) (i:=8) (Only.refl _ w5) (.inl rfl) v5) hX.Fb (fun k hk e=>hvb (by rw [hk,e]))).toG (fun k _ h=>.inl h) (fun k hk=>.inr (.inr (.inr (.inl hk)))) hown.2
 ·exact hX.planG ow hF
 ·exact hX.usersG ow hF (fun k hk e => by
   rcases e with e | e
   ·exact hX.ub (e ▸ hk)
   ·exact hX.pu k e hk) (fun k hk=>.inr (.inr (.inr (.inr hk))))
end
def doC (c:CSt) (ch:ChM):CSt:={ c with time:=c.time+1,here:=applyC c.here ch,pending:=c.pending++[ch] }
set_option maxRecDepth 100000 in
set_option maxHeartbeats 6400000 in
theorem do_any (F M : Nat → Prop) (b : Nat) (c : CSt) (ch : ChM) (d : Value) (w : World) (h : FcAt F w b c M) (hd : By F w d ch.f.data) (ht : 0 ≤ c.time ∧ c.time ≤ 4000000000000) (hn : c.here.length ≤ 1000000) (hp : c.pending.length ≤ 1000000) (hu : usedM c.here ≤ 4000000000000) (hg : ch.gone.length ≤ 1000000) (hpa : ch.path.length ≤ 1000000) (hdl : ch.f.data.length ≤ 1000000) :
  Calls Tryz.prog 128 #[.pointer (some ⟨b,0,none⟩),chV ch d] w fun e w'=>e=.returned (.tuple #[])∧FcPost F M w b (doC c ch) w':=by
 obtain ⟨x,hX,hM⟩:=h
 have HBYF:=Lib.hid hX.self
 obtain ⟨dA,dc,rfl,_,_⟩:=hd.slice
 obtain ⟨cs,hcs⟩:∃ cs,cs=(#[.string (str ch.gone),.string (str ch.path),.int .i64 ch.f.mode,.slice dA ch.f.data.length dc,.int .i64 ch.f.time]:Array Value):=⟨_,rfl⟩
 obtain ⟨wb,hwb⟩:∃ wb,wb=w.alloc (.cells #[.string (str ch.gone),.string (str ch.path),.int .i64 ch.f.mode,.slice dA ch.f.data.length dc,.int .i64 ch.f.time] 133):=⟨_,rfl⟩
 have hB:Below w.heap.size w wb:=by rw [hwb];exact (Below.refl _ _).alloc (Nat.le_refl _) _
 have hbox:Blk wb w.heap.size 133 cs:=by rw [hwb,hcs];exact Blk.new _ _ _
 have hblt:=hX.blk.lt
 have hne:w.heap.size≠b:=by omega
 have hXb:=hX.below hB
 obtain ⟨t,hT⟩:∃ t,c.time=t:=⟨_,rfl⟩
 rw [hT] at ht
 obtain ⟨t0,t1⟩:=ht
 have f6:wb.cell? ⟨b,2,none⟩=some (.int .i64 t):=by rw [← hT];exact hXb.blk.cell 2
 have z6:wb.frozen? ⟨b,2,none⟩=false:=hXb.blk.frozen 2
 have hX1:FcX F (wb.setCell ⟨b,2,none⟩ (.int .i64 (t+1))) b { c with time:=t+1 } x:=hXb.cell 2 _ rfl rfl rfl rfl rfl rfl
 have hbox1:Blk (wb.setCell ⟨b,2,none⟩ (.int .i64 (t+1))) w.heap.size 133 cs:=hbox.far hne _
 have ho1:Only (fun k=>k=b) w (wb.setCell ⟨b,2,none⟩ (.int .i64 (t+1))):=Only.set_ (M:=fun k=>k=b) (g:=b) (i:=2) (Only.of_below hB) (.inl rfl) _
 have HX:=Lib.hid hX
 have HX1:=Lib.hid hX1
 have HO1:=Lib.hid ho1
 have HBOX1:=Lib.hid hbox1
 have HMM:=Lib.hid hM
 have HT:=Lib.hid hT
 have HCS:=Lib.hid hcs
 have HD:=Lib.hid hd
 have HN:=Lib.hid hn
 have HP:=Lib.hid hp
 have HU:=Lib.hid hu
 clear hX hB hbox hM hd hXb hT hX1 hbox1 ho1 hn hp hu hcs
 go_enter Tryz.func128,Tryz.ntmps128
 unfold chV
 go_upto_region 1 with (fail)
 rw [← hwb]
 clear hwb
 go_upto_region 2 with (fail)
 generalize wb.setCell ⟨b,2,none⟩ (.int .i64 (t+1))=w1 at *
 have hbx:=HBOX1.out
 rw [HCS.out] at hbx
 obtain ⟨r0,r1,r2,r3,r4⟩:w1.cell? ⟨w.heap.size,0,none⟩=some (.string (str ch.gone))∧w1.cell? ⟨w.heap.size,1,none⟩=some (.string (str ch.path))∧w1.cell? ⟨w.heap.size,2,none⟩=some (.int .i64 ch.f.mode)∧w1.cell? ⟨w.heap.size,3,none⟩=some (.slice dA ch.f.data.length dc)∧w1.cell? ⟨w.heap.size,4,none⟩=some (.int .i64 ch.f.time):=⟨hbx.cell 0,hbx.cell 1,hbx.cell 2,hbx.cell 3,hbx.cell 4⟩
 have p6:w1.cell? ⟨b,6,none⟩=some (.pointer (some ⟨x.here,0,none⟩)):=HX1.out.blk.cell 6
 clear f6 z6 hbx
 go_still_tail 5,(by kernel_rfl)
 change wpList _ _ _ _ _ w1.drew
 go_wp2_with fail
 have hT1:TreeX F w1.drew x.here c.here x.hf x.hu:=HX1.out.here.only (M:=fun _=>False) ((Only.refl _ w1).drew) (fun _ _=>id) (fun _ _=>id)
 have hd1:By F w1.drew (.slice dA ch.f.data.length dc) ch.f.data:=HD.out.only (HO1.out.drew) HX1.out.Fb
 have hap:=tapply_any F x.here x.hf x.hu c.here ch (.slice dA ch.f.data.length dc) w1.drew hT1 HX.out.Fh hd1 hg hpa HN.out HU.out hdl
 unfold chV at hap
 refine hap.mono ?_
 rintro e w2 ⟨rfl,hT2,ho2⟩
 have o12:Only (treeM x.here x.hf x.hu) w1 w2:=Only.of_drew ho2
 have hX2:=HX1.out.here_ hT2 o12
 have hnb:¬ treeM x.here x.hf x.hu w.heap.size:=fun hk=>by have:=HX.out.lt _ (.inr (.inl hk));omega
 have hbox2:=o12.blk HBOX1.out hnb
 rw [HCS.out] at hbox2
 have HO2:Hid (Only M w w2):=((HO1.out.more (M':=M) (fun k _ e=>(HMM.out k).2 (.inl e))).trans (M':=M) (o12.more (fun k _ e=>(HMM.out k).2 (.inr (.inl e)))) (fun _ hk=>.inl hk))
 have HX2:=Lib.hid hX2
 have HD2:Hid (By F w2 (.slice dA ch.f.data.length dc) ch.f.data):=hd1.only ho2 HX.out.Fh
 clear hT1 hd1 hap hT2 ho2 o12 hX2 hnb r0 r1 r2 r3 r4 p6
 obtain ⟨r0,r1,r2,r3,r4⟩:w2.cell? ⟨w.heap.size,0,none⟩=some (.string (str ch.gone))∧w2.cell? ⟨w.heap.size,1,none⟩=some (.string (str ch.path))∧w2.cell? ⟨w.heap.size,2,none⟩=some (.int .i64 ch.f.mode)∧w2.cell? ⟨w.heap.size,3,none⟩=some (.slice dA ch.f.data.length dc)∧w2.cell? ⟨w.heap.size,4,none⟩=some (.int .i64 ch.f.time):=⟨hbox2.cell 0,hbox2.cell 1,hbox2.cell 2,hbox2.cell 3,hbox2.cell 4⟩
 have p8:w2.cell? ⟨b,8,none⟩=some x.pending:=HX2.out.blk.cell 8
 clear hbox2
 go_upto_region 3 with (fail)
 have HPA:=Lib.hid (HX2.out.pending.alloc (.cells #[.string (str ch.gone),.string (str ch.path),.int .i64 ch.f.mode,.slice dA ch.f.data.length dc,.int .i64 ch.f.time] 133))
 have HPD:=Lib.hid (HX2.out.pending.drew.alloc (.cells #[.string (str ch.gone),.string (str ch.path),.int .i64 ch.f.mode,.slice dA ch.f.data.length dc,.int .i64 ch.f.time] 133))
 have HLA:=Lib.hid (TmpL.one (K:=chK) (F:=F) (a:=ch) (d:=.slice dA ch.f.data.length dc) (Blk.new w2 133 #[.string (str ch.gone),.string (str ch.path),.int .i64 ch.f.mode,.slice dA ch.f.data.length dc,.int .i64 ch.f.time]) rfl (HD2.out.only ((Only.refl (fun _=>False) w2).alloc _) (fun _ _=>id)))
 have HLD:=Lib.hid (TmpL.one (K:=chK) (F:=F) (a:=ch) (d:=.slice dA ch.f.data.length dc) (Blk.new w2.drew 133 #[.string (str ch.gone),.string (str ch.path),.int .i64 ch.f.mode,.slice dA ch.f.data.length dc,.int .i64 ch.f.time]) rfl (HD2.out.only (((Only.refl (fun _=>False) w2).drew).alloc _) (fun _ _=>id)))
 have HFP:Hid (∀ k,F k→k<(w2.alloc (.cells #[.string (str ch.gone),.string (str ch.path),.int .i64 ch.f.mode,.slice dA ch.f.data.length dc,.int .i64 ch.f.time] 133)).heap.size):=fun k hk=>by have:=HX2.out.low k hk;simp;omega
 have s1:Hid (c.pending.length+[ch].length≤2000000):=by unfold Hid;have:=HP.out;simp;omega
 have p8a:(w2.alloc (.cells #[.string (str ch.gone),.string (str ch.path),.int .i64 ch.f.mode,.slice dA ch.f.data.length dc,.int .i64 ch.f.time] 133)).cell? ⟨b,8,none⟩=some x.pending:=(HX2.out.blk.alloc _).cell 8
 go_region_law (refine step_appendL typed_ch (v:=x.pending) (ex:=.slice (some ⟨w2.heap.size,0,none⟩) 1 1) (l2:=[ch]) rfl (.tmp 21) (.tmp 23) rfl (by first | exact HPA.out.drew | exact HPA.out | exact HPD.out) (by first | exact HLA.out.drew | exact HLA.out | exact HLD.out) (by rfl) (by rfl) s1.out (by exact Nat.zero_le _) (by exact HFP.out) ?_;intro v5 w5 ho5 hg5 hk5;obtain ⟨A5,c5,hv5,_,_⟩:=ho5.tmp.slice;subst hv5;have hb5:Blk w5 b 68 (fcC { c with time:=t+1,here:=applyC c.here ch } x):=(HX2.out.blk.alloc _).drew.grown hg5 (fun e=>HX2.out.pb e.symm);have y3:w5.cell? ⟨b,8,none⟩=some x.pending:=hb5.cell 8;have y3f:w5.frozen? ⟨b,8,none⟩=false:=hb5.frozen 8;have HO5:=Lib.hid ho5;have HG5:=Lib.hid hg5;have HK5:=Lib.hid hk5;clear ho5 hg5 hk5 hb5)
 all_goals
  go_end0
  refine ⟨rfl,?_⟩
  have:=HX2.out.pend_ HMM.out (((Below.refl _ _).alloc (Nat.le_refl _) _).drew) HG5.out HO5.out (HK5.out.imp id .inl)
  have h2:=FcPost.of_only HO2.out this
  unfold doC
  rw [HT.out]
  exact h2
end Go.Proofs.YtlkolcokjmlmjaaGreat.Tx
