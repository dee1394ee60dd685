/- Texts put together: YTq0, YTn0, YTn1, YTn2, YTn4, YTn5, YTn6, YTn7, YTn8, YTn9, YTq1, YTq3. -/
import Derived.Test.YtlgmbljfjfcpoaaGreatQt02
import GoSem.Op.String
/- Texts cut at a sign, and joined: plain lists, no Go in it. -/
namespace Go.Proofs.YtlgmbljfjfcpoaaGreat.Tx

/-- A text cut at every such sign: one piece at least. -/
def splitL (g : UInt8) : List UInt8 → List (List UInt8)
  | [] => [[]]
  | c :: r => if c = g then [] :: splitL g r else match splitL g r with
    | [] => [[c]]
    | p :: ps => (c :: p) :: ps
theorem splitL_ne (g : UInt8) (s : List UInt8) : splitL g s ≠ [] := by
  cases s with
  | nil => simp [splitL]
  | cons c r =>
    unfold splitL
    split
    · simp
    · split <;> simp
theorem splitL_cons_ne {g c : UInt8} (h : c ≠ g) (r : List UInt8) : ∃ p ps, splitL g r = p :: ps ∧ splitL g (c :: r) = (c :: p) :: ps := by
  obtain ⟨p, ps, e⟩ : ∃ p ps, splitL g r = p :: ps := by
    cases hr : splitL g r with
    | nil => exact absurd hr (splitL_ne g r)
    | cons p ps => exact ⟨p, ps, rfl⟩
  refine ⟨p, ps, e, ?_⟩
  rw [splitL, if_neg h, e]
theorem splitL_sign (g : UInt8) (r : List UInt8) : splitL g (g :: r) = [] :: splitL g r := by rw [splitL, if_pos rfl]
theorem splitL_none {g : UInt8} : ∀ {l : List UInt8}, g ∉ l → splitL g l = [l]
  | [], _ => rfl
  | c :: r, h => by
    have hc : c ≠ g := fun e => h (by rw [e]; exact List.mem_cons_self)
    obtain ⟨p, ps, e1, e2⟩ := splitL_cons_ne hc r
    have := splitL_none (l := r) (fun hm => h (List.mem_cons_of_mem _ hm))
    rw [this] at e1
    injection e1 with e3 e4
    rw [e2, ← e3, ← e4]
theorem splitL_cut {g : UInt8} : ∀ {a : List UInt8}, g ∉ a → ∀ b, splitL g (a ++ g :: b) = a :: splitL g b
  | [], _, b => splitL_sign g b
  | c :: r, h, b => by
    have hc : c ≠ g := fun e => h (by rw [e]; exact List.mem_cons_self)
    obtain ⟨p, ps, e1, e2⟩ := splitL_cons_ne hc (r ++ g :: b)
    rw [splitL_cut (a := r) (fun hm => h (List.mem_cons_of_mem _ hm)) b] at e1
    injection e1 with e3 e4
    rw [List.cons_append, e2, ← e3, ← e4]
theorem splitL_length (g : UInt8) : ∀ s : List UInt8, (splitL g s).length = s.count g + 1
  | [] => rfl
  | c :: r => by
    by_cases hc : c = g
    · subst hc
      rw [splitL_sign, List.length_cons, splitL_length c r, List.count_cons_self]
    · obtain ⟨q, qs, e1, e2⟩ := splitL_cons_ne hc r
      have := splitL_length g r
      rw [e1] at this
      rw [e2, List.length_cons, List.count_cons_of_ne hc]
      simpa using this
theorem splitL_length_le (g : UInt8) (s : List UInt8) : (splitL g s).length ≤ s.length + 1 := by
  rw [splitL_length]
  have := List.count_le_length (a := g) (l := s)
  omega

/-- Texts with a sign between. -/
def joinL (g : UInt8) : List (List UInt8) → List UInt8
  | [] => []
  | [p] => p
  | p :: q :: r => p ++ g :: joinL g (q :: r)
/-- The signs behind place k of a text that has none from `fr` to k. -/
theorem drop_cut (s : List UInt8) (fr k : Nat) (h1 : fr ≤ k) (h2 : k < s.length) : s.drop fr = (s.take k).drop fr ++ s[k] :: s.drop (k + 1) := by
  have e : s = s.take k ++ s[k] :: s.drop (k + 1) := by
    rw [← List.drop_eq_getElem_cons h2, List.take_append_drop]
  have hl : fr ≤ (s.take k).length := by simp; omega
  conv => lhs; rw [e]
  rw [List.drop_append_of_le_length hl]
theorem not_mem_cut {s : List UInt8} {g : UInt8} {fr k : Nat} (h : ∀ j, fr ≤ j → j < k → s[j]? ≠ some g) : g ∉ (s.take k).drop fr := by
  intro hm
  obtain ⟨i, hi, e⟩ := List.getElem_of_mem hm
  have hi' : fr + i < (s.take k).length := by simp at hi ⊢; omega
  have e2 : (s.take k)[fr + i]'hi' = g := by rw [← e, List.getElem_drop]
  have hk : fr + i < k := by simp at hi'; omega
  refine h (fr + i) (by omega) hk ?_
  rw [List.getElem_take] at e2
  rw [List.getElem?_eq_getElem (by simp at hi'; omega), e2]

/-- A name. -/
def nameB (s : List UInt8) : Bool := decide (1 ≤ s.length) && decide (s.length ≤ 64) && !(s == [46]) && !(s == [46, 46]) && s.all fun c => decide (33 ≤ c.toNat) && decide (c.toNat ≤ 126) && !(c == 47)
/-- A path. -/
def pathB (s : List UInt8) : Bool := decide (s.length ≤ 200) && (splitL 47 s).all nameB && decide ((splitL 47 s).length ≤ 8)
end Go.Proofs.YtlgmbljfjfcpoaaGreat.Tx
/- marref.Split. -/
namespace Go.Proofs.YtlgmbljfjfcpoaaGreat.Tx
open Go.RowKit Go.Proofs.YtlgmbljfjfcpoaaGreat.Sh

theorem slice_str (cs : List UInt8) (a b : Nat) : (str cs).extract a b = str ((cs.take b).drop a) := by
  unfold str
  apply ByteArray.ext
  rw [ByteArray.data_extract]
  apply Array.ext'
  rw [Array.toList_extract, List.extract_eq_take_drop, List.drop_take]

end Go.Proofs.YtlgmbljfjfcpoaaGreat.Tx
/- The reference's Name, Path, Split. -/
namespace Go.Proofs.YtlgmbljfjfcpoaaGreat.Tx
open Go.RowKit Go.Proofs.YtlgmbljfjfcpoaaGreat.Sh

def okc (c : UInt8) : Bool := decide (33 ≤ c.toNat) && decide (c.toNat ≤ 126) && !(c == 47)
theorem nameB_eq (s : List UInt8) : nameB s = (decide (1 ≤ s.length) && decide (s.length ≤ 64) && !(s == [46]) && !(s == [46, 46]) && s.all okc) := rfl
theorem nameB_bad {s : List UInt8} {k : Nat} {c : UInt8} (h : s[k]? = some c) (hc : okc c = false) : nameB s = false := by
  rw [nameB_eq]
  have : s.all okc = false := by
    rw [List.all_eq_false]
    exact ⟨c, List.mem_of_getElem? h, by rw [hc]; decide⟩
  rw [this, Bool.and_false]
theorem nameB_good {s : List UInt8} (h1 : 1 ≤ s.length) (h2 : s.length ≤ 64) (h3 : (s == [46]) = false) (h4 : (s == [46, 46]) = false) (h : ∀ (j : Nat) (c : UInt8), s[j]? = some c → okc c = true) : nameB s = true := by
  rw [nameB_eq, h3, h4]
  have : s.all okc = true := by
    rw [List.all_eq_true]
    intro x hx
    obtain ⟨i, hi⟩ := List.getElem?_of_mem hx
    exact h i x hi
  rw [this]
  simp [h1, h2]
theorem okc_cases (c : UInt8) : (okc c = false ∧ bi c < 33) ∨ (okc c = false ∧ 33 ≤ bi c ∧ 126 < bi c) ∨ (okc c = false ∧ 33 ≤ bi c ∧ bi c ≤ 126 ∧ c = 47) ∨ (okc c = true ∧ 33 ≤ bi c ∧ bi c ≤ 126 ∧ (bi c == 47) = false) := by
  have e : bi c = (c.toNat : Int) := by unfold bi; rfl
  rw [e]
  unfold okc
  by_cases h1 : c.toNat < 33
  · left; constructor
    · simp; omega
    · omega
  · by_cases h2 : 126 < c.toNat
    · right; left; refine ⟨by simp; omega, by omega, by omega⟩
    · by_cases h3 : c = 47
      · right; right; left; subst h3; exact ⟨by decide, by decide, by decide, rfl⟩
      · right; right; right
        refine ⟨by simp; exact ⟨⟨by omega, by omega⟩, h3⟩, by omega, by omega, ?_⟩
        rw [beq_eq_false_iff_ne]
        intro h
        exact h3 (UInt8.toNat_inj.1 (by show c.toNat = 47; omega))
theorem list_other {a b : List UInt8} (h : a ≠ b) : (a == b) = false := by simpa using h

end Go.Proofs.YtlgmbljfjfcpoaaGreat.Tx
/- The reference's Path, Split. -/
namespace Go.Proofs.YtlgmbljfjfcpoaaGreat.Tx
open Go.RowKit Go.Proofs.YtlgmbljfjfcpoaaGreat.Sh

def BoolPost (w : World) (t : Bool) (e : Ending) (w' : World) : Prop := e = .returned (.bool t) ∧ Below w.heap.size w w'
theorem piece_len {g : UInt8} : ∀ {s p : List UInt8}, p ∈ splitL g s → p.length ≤ s.length
  | [], p, h => by simp [splitL] at h; subst h; simp
  | c :: r, p, h => by
    by_cases hc : c = g
    · subst hc
      rw [splitL_sign] at h
      rcases List.mem_cons.1 h with rfl | h
      · simp
      · have := piece_len h; simp; omega
    · obtain ⟨q, qs, e1, e2⟩ := splitL_cons_ne hc r
      rw [e2] at h
      rcases List.mem_cons.1 h with rfl | h
      · have := piece_len (s := r) (p := q) (by rw [e1]; exact List.mem_cons_self)
        simp; omega
      · have := piece_len (s := r) (p := p) (by rw [e1]; exact List.mem_cons_of_mem _ h)
        simp; omega
theorem pathB_long {s : List UInt8} (h : 200 < s.length) : pathB s = false := by
  unfold pathB
  simp [show ¬ (s.length ≤ 200) from by omega]
theorem pathB_bad {s : List UInt8} {k : Nat} (hk : k < (splitL 47 s).length) (h : nameB (splitL 47 s)[k] = false) : pathB s = false := by
  unfold pathB
  have : (splitL 47 s).all nameB = false := by
    rw [List.all_eq_false]
    exact ⟨_, List.getElem_mem hk, by rw [h]; decide⟩
  rw [this, Bool.and_false, Bool.false_and]
theorem pathB_good {s : List UInt8} (h1 : s.length ≤ 200) (h : ∀ (k : Nat) (hk : k < (splitL 47 s).length), nameB (splitL 47 s)[k] = true) : pathB s = decide ((splitL 47 s).length ≤ 8) := by
  unfold pathB
  have : (splitL 47 s).all nameB = true := by
    rw [List.all_eq_true]
    intro x hx
    obtain ⟨i, hi, rfl⟩ := List.getElem_of_mem hx
    exact h i hi
  rw [this]
  simp [h1]
theorem pathB_len {s : List UInt8} (h : pathB s = true) : s.length ≤ 200 := by
  unfold pathB at h
  simp at h
  exact h.1.1
theorem bi47 : bi 47 = 47 := by unfold bi; rfl
theorem piece_at {w : World} {B : Nat} {ps : List (List UInt8)} {A : Option Addr} {n c : Nat} (h : OwnV 9 w B (.slice A n c) ((ps.map str).map sv)) (k : Nat) (hk : k < ps.length) : ∃ ad, A = some ad ∧ w.cell? (ad.add k) = some (.string (str ps[k])) := by
  obtain ⟨A', c', hv, _, _, hr⟩ := h.slv.len
  injection hv with e1 e2 e3
  subst e1
  obtain ⟨ad, h1, h2⟩ := reads_at hr k (sv (str ps[k])) (by rw [List.map_map, List.getElem?_map, List.getElem?_eq_getElem hk]; rfl)
  exact ⟨ad, h1, h2⟩

end Go.Proofs.YtlgmbljfjfcpoaaGreat.Tx
/- The reference's Join, Under, Parents, Copy. -/
namespace Go.Proofs.YtlgmbljfjfcpoaaGreat.Tx
open Go.RowKit Go.Proofs.YtlgmbljfjfcpoaaGreat.Sh

theorem str_append (a b : List UInt8) : str a ++ str b = str (a ++ b) := by
  unfold str
  apply ByteArray.ext
  rw [ByteArray.data_append]
  simp

/-- Is s beneath d? -/
def underB (d s : List UInt8) : Bool := pathB d && pathB s && decide (d.length + 1 < s.length) && (s.take d.length == d) && (s[d.length]? == some 47)
end Go.Proofs.YtlgmbljfjfcpoaaGreat.Tx
/- The reference's Parents, Copy. -/
namespace Go.Proofs.YtlgmbljfjfcpoaaGreat.Tx
open Go.RowKit Go.Proofs.YtlgmbljfjfcpoaaGreat.Sh

/-- What stands ahead of each sign ahead of place k. -/
def parP (s : List UInt8) : Nat → List (List UInt8)
  | 0 => []
  | k + 1 => if s[k]? = some 47 then parP s k ++ [s.take k] else parP s k
def parentsL (s : List UInt8) : List (List UInt8) := if pathB s = true then parP s s.length else []
theorem parP_len (s : List UInt8) : ∀ k, (parP s k).length ≤ k
  | 0 => Nat.le_refl _
  | k + 1 => by
    have := parP_len s k
    unfold parP
    split
    · simp; omega
    · omega

/-- A copy's name. -/
def copyL (s id : List UInt8) (n : Int) : List UInt8 := s ++ [126] ++ id.take 8 ++ List.replicate (min n 100).toNat 126
end Go.Proofs.YtlgmbljfjfcpoaaGreat.Tx
/- The reference's Join. -/
namespace Go.Proofs.YtlgmbljfjfcpoaaGreat.Tx
open Go.RowKit Go.Proofs.YtlgmbljfjfcpoaaGreat.Sh

def joinOk (l : List (List UInt8)) : Bool := !l.isEmpty && ((splitL 47 (joinL 47 l)).length == l.length) && pathB (joinL 47 l)
def joinT (l : List (List UInt8)) : List UInt8 := if joinOk l = true then joinL 47 l else []
def joinE (l : List (List UInt8)) : Int := if joinOk l = true then 0 else 6
def JoinPost (w : World) (l : List (List UInt8)) (e : Ending) (w' : World) : Prop := e = .returned (.tuple #[.string (str (joinT l)), .int .i64 (joinE l)]) ∧ Below w.heap.size w w'
end Go.Proofs.YtlgmbljfjfcpoaaGreat.Tx
/- The reference's takes. -/

namespace Go.Proofs.YtlgmbljfjfcpoaaGreat.Tx
open Go.RowKit Go.Proofs.YtlgmbljfjfcpoaaGreat.Sh

/-- Does a pattern take a name? -/
def takesB (fr : List UInt8) (star : Bool) (bk s : List UInt8) : Bool := if star = true then decide (fr.length + bk.length ≤ s.length) && (s.take fr.length == fr) && (s.drop (s.length - bk.length) == bk) else s == fr
end Go.Proofs.YtlgmbljfjfcpoaaGreat.Tx
/- The reference's pattern, Pattern. -/
namespace Go.Proofs.YtlgmbljfjfcpoaaGreat.Tx
open Go.RowKit Go.Proofs.YtlgmbljfjfcpoaaGreat.Sh

def patDir (p : List UInt8) : Bool := p.getLast? == some 47
def patCore (p : List UInt8) : List UInt8 := if patDir p = true then p.take (p.length - 1) else p
/-- A pattern's parts: ahead of its star, has it one, behind it, is it of directories. -/
def patL (p : List UInt8) : Option (List UInt8 × Bool × List UInt8 × Bool) :=
  if nameB (patCore p) = true then
    match splitL 42 (patCore p) with
    | [_] => some (patCore p, false, [], patDir p)
    | [a, b] => if a.isEmpty = b.isEmpty then none else some (a, true, b, patDir p)
    | _ => none
  else none
def patV : Option (List UInt8 × Bool × List UInt8 × Bool) → Value
  | none => .tuple #[.string ⟨#[]⟩, .bool false, .string ⟨#[]⟩, .bool false, .bool false]
  | some (a, s, b, d) => .tuple #[.string (str a), .bool s, .string (str b), .bool d, .bool true]
def PatPost (w : World) (p : List UInt8) (e : Ending) (w' : World) : Prop := e = .returned (patV (patL p)) ∧ Below w.heap.size w w'
theorem text_there {b : List UInt8} (h : 0 < b.length) : (str b).toList.isEmpty = false ∧ ((str b).toList == []) = false := by
  rw [str_toList]
  cases b with
  | nil => simp at h
  | cons c r => exact ⟨rfl, rfl⟩
end Go.Proofs.YtlgmbljfjfcpoaaGreat.Tx
/- The reference's Ignored. -/
namespace Go.Proofs.YtlgmbljfjfcpoaaGreat.Tx
open Go.RowKit Go.Proofs.YtlgmbljfjfcpoaaGreat.Sh

/-- A path's names; none, if it is no path. -/
def namesL (s : List UInt8) : List (List UInt8) := if pathB s = true then splitL 47 s else []
/-- Does a pattern take one of the names ahead of place k? -/
def hitTo (f : List UInt8) (st : Bool) (b : List UInt8) (d : Bool) (l : List (List UInt8)) (k : Nat) : Bool := (List.range k).any fun j => (!d || decide (j + 1 < l.length)) && takesB f st b (l.getD j [])
def hitP (l : List (List UInt8)) (p : List UInt8) : Bool := match patL p with
  | none => false
  | some (f, st, b, d) => hitTo f st b d l l.length
def ignoredB (ps : List (List UInt8)) (s : List UInt8) : Bool := ps.any (hitP (namesL s))
theorem namesL_few (s : List UInt8) : (namesL s).length ≤ s.length + 1 := by
  unfold namesL
  split
  · exact splitL_length_le 47 s
  · simp
end Go.Proofs.YtlgmbljfjfcpoaaGreat.Tx
/- Names and paths: what follows of their definitions. Plain lists. -/
namespace Go.Proofs.YtlgmbljfjfcpoaaGreat.Tx

theorem splitL_app (g : UInt8) : ∀ (a b : List UInt8), splitL g (a ++ g :: b) = splitL g a ++ splitL g b
  | [], b => splitL_sign g b
  | c :: r, b => by
    by_cases hc : c = g
    · subst hc
      rw [List.cons_append, splitL_sign, splitL_sign, splitL_app c r b]
      rfl
    · obtain ⟨p, ps, e1, e2⟩ := splitL_cons_ne hc (r ++ g :: b)
      obtain ⟨q, qs, e3, e4⟩ := splitL_cons_ne hc r
      rw [splitL_app g r b, e3] at e1
      injection e1 with e5 e6
      rw [List.cons_append, e2, e4, ← e5, ← e6]
      rfl
theorem pathB_iff (s : List UInt8) : pathB s = true ↔ s.length ≤ 200 ∧ (∀ p ∈ splitL 47 s, nameB p = true) ∧ (splitL 47 s).length ≤ 8 := by
  unfold pathB
  simp [and_assoc]
theorem nameB_sign {p : List UInt8} (h : nameB p = true) : 47 ∉ p := by
  intro hm
  rw [nameB_eq] at h
  simp only [Bool.and_eq_true, List.all_eq_true] at h
  have := h.2 47 hm
  exact absurd this (by decide)
/-! Parents. -/
theorem parP_mem {s x : List UInt8} : ∀ {n : Nat}, x ∈ parP s n ↔ ∃ k, k < n ∧ s[k]? = some 47 ∧ x = s.take k
  | 0 => by simp [parP]
  | n + 1 => by
    unfold parP
    split
    · rename_i h
      rw [List.mem_append, parP_mem, List.mem_singleton]
      constructor
      · rintro (⟨k, h1, h2, h3⟩ | h3)
        · exact ⟨k, by omega, h2, h3⟩
        · exact ⟨n, by omega, h, h3⟩
      · rintro ⟨k, h1, h2, h3⟩
        by_cases e : k = n
        · subst e; exact .inr h3
        · exact .inl ⟨k, by omega, h2, h3⟩
    · rename_i h
      rw [parP_mem]
      constructor
      · rintro ⟨k, h1, h2, h3⟩; exact ⟨k, by omega, h2, h3⟩
      · rintro ⟨k, h1, h2, h3⟩
        by_cases e : k = n
        · subst e; exact absurd h2 h
        · exact ⟨k, by omega, h2, h3⟩
theorem cut_at {s : List UInt8} {k : Nat} (h : s[k]? = some 47) : s = s.take k ++ 47 :: s.drop (k + 1) := by
  obtain ⟨hk, e⟩ := List.getElem?_eq_some_iff.1 h
  rw [← e, ← List.drop_eq_getElem_cons hk, List.take_append_drop]
theorem cut_split {s : List UInt8} {k : Nat} (h : s[k]? = some 47) : splitL 47 s = splitL 47 (s.take k) ++ splitL 47 (s.drop (k + 1)) := by
  conv => lhs; rw [cut_at h]
  exact splitL_app 47 _ _
theorem pathB_cut {s : List UInt8} {k : Nat} (hp : pathB s = true) (h : s[k]? = some 47) : pathB (s.take k) = true ∧ k + 1 < s.length := by
  obtain ⟨h1, h2, h3⟩ := (pathB_iff s).1 hp
  have hs := cut_split h
  obtain ⟨hk, _⟩ := List.getElem?_eq_some_iff.1 h
  refine ⟨(pathB_iff _).2 ⟨by rw [List.length_take]; omega, fun p hp => h2 p (by rw [hs]; exact List.mem_append_left _ hp), by rw [hs, List.length_append] at h3; omega⟩, ?_⟩
  rcases Nat.lt_or_ge (k + 1) s.length with e | e
  · exact e
  · have hd : s.drop (k + 1) = [] := List.drop_eq_nil_of_le e
    have := h2 [] (by rw [hs, hd]; exact List.mem_append_right _ (by simp [splitL]))
    exact absurd this (by decide)
theorem under_iff (t s : List UInt8) : underB t s = true ↔ t ∈ parentsL s := by
  unfold parentsL
  constructor
  · intro h
    unfold underB at h
    simp only [Bool.and_eq_true, decide_eq_true_eq, beq_iff_eq] at h
    obtain ⟨⟨⟨⟨_, h2⟩, h3⟩, h4⟩, h5⟩ := h
    rw [if_pos h2, parP_mem]
    exact ⟨t.length, by omega, h5, h4.symm⟩
  · intro h
    split at h
    · rename_i hp
      obtain ⟨k, h1, h2, h3⟩ := parP_mem.1 h
      obtain ⟨g1, g2⟩ := pathB_cut hp h2
      have hl : t.length = k := by rw [h3, List.length_take]; omega
      unfold underB
      simp only [Bool.and_eq_true, decide_eq_true_eq, beq_iff_eq]
      rw [hl]
      exact ⟨⟨⟨⟨by rw [h3]; exact g1, hp⟩, g2⟩, h3.symm⟩, h2⟩
    · cases h
theorem parents_path {s x : List UInt8} (h : x ∈ parentsL s) : pathB x = true := by
  have := (under_iff x s).2 h
  unfold underB at this
  simp only [Bool.and_eq_true] at this
  exact this.1.1.1.1
theorem parP_count (s : List UInt8) : ∀ n, n ≤ s.length → (parP s n).length = (s.take n).count 47
  | 0, _ => by simp [parP]
  | n + 1, h => by
    have ih := parP_count s n (by omega)
    rw [List.take_succ_eq_append_getElem (by omega), List.count_append]
    by_cases e : s[n]? = some 47
    · have e2 : s[n] = 47 := by rw [List.getElem?_eq_getElem (by omega)] at e; injection e
      rw [parP, if_pos e, List.length_append, ih, e2]
      rfl
    · have e2 : s[n] ≠ 47 := fun h => e (by rw [List.getElem?_eq_getElem (by omega), h])
      rw [parP, if_neg e, ih, List.count_cons_of_ne e2]
      rfl
theorem parents_len {s : List UInt8} (hp : pathB s = true) : (parentsL s).length + 1 = (namesL s).length := by
  unfold parentsL namesL
  rw [if_pos hp, if_pos hp, splitL_length, parP_count s _ (Nat.le_refl _), List.take_length]
end Go.Proofs.YtlgmbljfjfcpoaaGreat.Tx
/- Texts in order: plain lists. -/
namespace Go.Proofs.YtlgmbljfjfcpoaaGreat.Tx

/-- Does a stand before b? -/
abbrev bl (a b : List UInt8) : Bool := Op.bytesLess a b
theorem bl_nil (b : List UInt8) : bl b [] = false := by cases b <;> rfl
theorem bl_cons (x y : UInt8) (a b : List UInt8) : bl (x :: a) (y :: b) = (decide (x < y) || (x == y && bl a b)) := by
  show Op.bytesLess _ _ = _
  rw [Op.bytesLess]
theorem bl_irr (a : List UInt8) : bl a a = false := by
  induction a with
  | nil => rfl
  | cons x a ih => rw [bl_cons, ih]; simp
theorem u8_tri (x y : UInt8) : x < y ∨ x = y ∨ y < x := by
  rcases Nat.lt_trichotomy x.toNat y.toNat with h | h | h
  · exact .inl h
  · exact .inr (.inl (UInt8.toNat_inj.1 h))
  · exact .inr (.inr h)
theorem u8_nlt {x y : UInt8} (h : x < y) : ¬ y < x ∧ x ≠ y := by
  have h' : x.toNat < y.toNat := h
  exact ⟨fun h2 => by have : y.toNat < x.toNat := h2; omega, fun e => by subst e; omega⟩
theorem bl_tri (a : List UInt8) : ∀ b : List UInt8, bl a b = true ∨ a = b ∨ bl b a = true := by
  induction a with
  | nil => intro b; cases b with | nil => exact .inr (.inl rfl) | cons y b => exact .inl rfl
  | cons x a ih =>
    intro b
    cases b with
    | nil => exact .inr (.inr rfl)
    | cons y b =>
      rw [bl_cons, bl_cons]
      rcases u8_tri x y with h | h | h
      · left; simp [h]
      · subst h
        rcases ih b with h | h | h
        · left; rw [h]; simp
        · right; left; rw [h]
        · right; right; rw [h]; simp
      · right; right; simp [h]
theorem bl_trans (a : List UInt8) : ∀ b c : List UInt8, bl a b = true → bl b c = true → bl a c = true := by
  induction a with
  | nil =>
    intro b c h1 h2
    cases c with
    | nil => rw [bl_nil] at h2; cases h2
    | cons z c => rfl
  | cons x a ih =>
    intro b c h1 h2
    cases b with
    | nil => rw [bl_nil] at h1; cases h1
    | cons y b =>
      cases c with
      | nil => rw [bl_nil] at h2; cases h2
      | cons z c =>
        rw [bl_cons] at h1 h2 ⊢
        rcases u8_tri x y with g1 | g1 | g1
        · rcases u8_tri y z with g2 | g2 | g2
          · have : x < z := by have a1 : x.toNat < y.toNat := g1; have a2 : y.toNat < z.toNat := g2; show x.toNat < z.toNat; omega
            simp [this]
          · subst g2; simp [g1]
          · have := u8_nlt g2
            simp [this.1, this.2.symm] at h2
        · subst g1
          rcases u8_tri x z with g2 | g2 | g2
          · simp [g2]
          · subst g2
            have hb1 : bl a b = true := by simpa using h1
            have hb2 : bl b c = true := by simpa using h2
            rw [ih b c hb1 hb2]
            simp
          · have := u8_nlt g2
            simp [this.1, this.2.symm] at h2
        · have := u8_nlt g1
          simp [this.1, this.2.symm] at h1
/-- Compare. -/
def cmpL (a b : List UInt8) : Int := if bl a b then -1 else if a = b then 0 else 1
end Go.Proofs.YtlgmbljfjfcpoaaGreat.Tx
