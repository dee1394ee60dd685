/- Bytes, as slices of one-cell values; appended to, and made a text. (No package's code in it.) -/
import Derived.Test.YtcjhkfklkcmehaaTx0
import Derived.Lib.AppendStr
namespace Go.Proofs.Ytcjhkfklkcmehaa.Tx
open Go.RowKit Go.Proofs.Ytcjhkfklkcmehaa.Sh

/-- A byte, as a value. -/
def bv (u : UInt8) : Value := .int .u8 (bi u)
theorem bv_one (l : List UInt8) : ∀ u ∈ l.map bv, u.oneCell' = true := by intro u hu; simp only [List.mem_map] at hu; obtain ⟨x, _, rfl⟩ := hu; rfl
theorem info_u8 : (Try.prog.info? 5).map (fun i => (i.zero, i.size, i.bytes)) = some (some (.int .u8 0), 1, 1) := by kernel_rfl
theorem cells_str (us : List UInt8) : Lib.strCells (str us) = us.map bv := by
  unfold Lib.strCells str
  simp [bv, bi_nat]
theorem str_push (ns : List UInt8) : ∀ base : List UInt8, ((ns.map bi).foldl (fun r n => r.push (UInt8.ofNat n.toNat)) (str base)) = str (base ++ ns) := by
  induction ns with
  | nil => intro base; simp
  | cons n ns ih =>
    intro base
    have e : (str base).push (UInt8.ofNat (bi n).toNat) = str (base ++ [n]) := by
      have h : UInt8.ofNat (bi n).toNat = n := by rw [bi_nat]; simp
      rw [h]
      unfold str ByteArray.push
      simp
    rw [List.map_cons, List.foldl_cons, e, ih]
    simp
end Go.Proofs.Ytcjhkfklkcmehaa.Tx
