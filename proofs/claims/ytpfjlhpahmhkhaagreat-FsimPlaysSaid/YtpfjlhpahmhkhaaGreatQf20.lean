/- Texts put together: WKeys. -/
import Derived.Shelf.SlGeneric
import Derived.Shelf.SlIter.Nil
import Derived.Shelf.SortM.Plain
import Derived.Shelf.SortM.SortNone
import Derived.Ground.GgzProg
import Derived.Ground.SlgmProg
import Derived.Test.YtpfjlhpahmhkhaaGreatProg
/-
  DERIVED: THE SHELF's CONTRACTS AT THIS DUMP, IN PLAIN WORDS (tools/lay-plain.mjs out of 'TryzShelfK.lean', which tools/lay-shelf.mjs wrote): THE SAME DECLARATIONS UNDER THE SAME NAMES: 'import', 'namespace', 'open', 'def', 'theorem' AND NOTHING ELSE: no command of the shelf's: FOR A HAND-IN. Each laying: the table of numbers ('.._ren') and one theorem, a field a fact of the dump's own or the kernel's comparison; each contract: ONE APPLICATION.
-/
namespace Go.Proofs
open Go.Shelf
def Tryz.keysA_ren : Go.Shelf.Ren := ⟨fun | 7 => 234 | 10 => 287 | n => n, fun | 23 => 239 | 26 => 9 | 3 => 122 | 28 => 321 | 0 => 0 | 27 => 320 | 33 => 80 | 4 => 4 | n => n, fun | n => n⟩
theorem Tryz.keysA : Go.Proofs.SlLaysZ.n7 Tryz.prog Tryz.keysA_ren := {
  mixed := by kernel_rfl
  f7 := ⟨Tryz.f234.name, by decide, Tryz.func234.trans (congrArg some (by kernel_rfl))⟩
  f10 := ⟨Tryz.f287.name, by decide, Tryz.func287.trans (congrArg some (by kernel_rfl))⟩
  t0 := Tryz.underlying0
  a0 := Tryz.isAgg0
  z0 := Tryz.sizeOf0
  v0 := Tryz.zeroValue0
  t4 := Tryz.underlying4
  a4 := Tryz.isAgg4
  z4 := Tryz.sizeOf4
  v4 := Tryz.zeroValue4
  t23 := Tryz.underlying239
  a23 := Tryz.isAgg239
  z23 := Tryz.sizeOf239
  v23 := Tryz.zeroValue239
  t26 := Tryz.underlying9
  a26 := Tryz.isAgg9
  z26 := Tryz.sizeOf9
  v26 := Tryz.zeroValue9
  t27 := Tryz.underlying320
  a27 := Tryz.isAgg320
  z27 := Tryz.sizeOf320
  v27 := Tryz.zeroValue320
  t28 := Tryz.underlying321
  a28 := Tryz.isAgg321
  z28 := Tryz.sizeOf321
  v28 := Tryz.zeroValue321
  t33 := Tryz.underlying80
  a33 := Tryz.isAgg80
  z33 := Tryz.sizeOf80
  v33 := Tryz.zeroValue80 }
def Tryz.sortedA_ren : Go.Shelf.Ren := ⟨fun | 6 => 233 | 8 => 285 | 9 => 286 | 11 => 335 | 13 => 266 | 12 => 336 | 23 => 327 | 24 => 328 | 14 => 364 | 15 => 365 | 16 => 366 | 17 => 367 | 18 => 368 | 19 => 369 | 20 => 370 | 21 => 371 | 22 => 372 | 25 => 381 | 26 => 360 | 27 => 361 | 28 => 382 | 29 => 383 | 30 => 384 | 31 => 391 | n => n, fun | 26 => 9 | 28 => 321 | 24 => 50 | 0 => 0 | 3 => 3 | 37 => 337 | 48 => 340 | 50 => 341 | 4 => 4 | 40 => 407 | 39 => 406 | 45 => 207 | 5 => 5 | 9 => 9 | 51 => 434 | 55 => 438 | 57 => 446 | 58 => 374 | 33 => 80 | n => n, fun | n => n⟩
theorem Tryz.sortedA : Go.Proofs.SlLaysZ.n6 Tryz.prog Tryz.sortedA_ren := {
  mixed := by kernel_rfl
  f6 := ⟨Tryz.f233.name, by decide, Tryz.func233.trans (congrArg some (by kernel_rfl))⟩
  f8 := ⟨Tryz.f285.name, by decide, Tryz.func285.trans (congrArg some (by kernel_rfl))⟩
  f11 := ⟨Tryz.f335.name, by decide, Tryz.func335.trans (congrArg some (by kernel_rfl))⟩
  t0 := Tryz.underlying0
  a0 := Tryz.isAgg0
  z0 := Tryz.sizeOf0
  v0 := Tryz.zeroValue0
  t24 := Tryz.underlying50
  a24 := Tryz.isAgg50
  z24 := Tryz.sizeOf50
  v24 := Tryz.zeroValue50
  t26 := Tryz.underlying9
  a26 := Tryz.isAgg9
  z26 := Tryz.sizeOf9
  v26 := Tryz.zeroValue9
  t28 := Tryz.underlying321
  a28 := Tryz.isAgg321
  z28 := Tryz.sizeOf321
  v28 := Tryz.zeroValue321
  i26 := by kernel_rfl }
def Tryz.sortA_ren : Go.Shelf.Ren := ⟨fun | 6 => 286 | 8 => 266 | 9 => 336 | 19 => 327 | 20 => 328 | 21 => 364 | 22 => 365 | 23 => 366 | 24 => 367 | 25 => 368 | 26 => 369 | 27 => 370 | 28 => 371 | 29 => 372 | 36 => 381 | 31 => 360 | 32 => 361 | 37 => 382 | 38 => 383 | 39 => 384 | 41 => 391 | n => n, fun | 27 => 50 | 29 => 9 | 3 => 3 | 32 => 337 | 26 => 50 | 0 => 0 | 44 => 340 | 46 => 341 | 4 => 4 | 36 => 407 | 35 => 406 | 41 => 207 | 5 => 5 | 9 => 9 | 53 => 434 | 57 => 438 | 63 => 446 | 64 => 374 | n => n, fun | n => n⟩
theorem Tryz.sortA : Go.Proofs.SlLaysM.n6 Tryz.prog Tryz.sortA_ren := {
  mixed := by kernel_rfl
  f6 := ⟨Tryz.f286.name, by decide, Tryz.func286.trans (congrArg some (by kernel_rfl))⟩
  f8 := Tryz.func266.trans (congrArg some (by kernel_rfl))
  f9 := ⟨Tryz.f336.name, by decide, Tryz.func336.trans (congrArg some (by kernel_rfl))⟩
  f19 := Tryz.func327.trans (congrArg some (by kernel_rfl))
  f20 := Tryz.func328.trans (congrArg some (by kernel_rfl))
  f21 := ⟨Tryz.f364.name, by decide, Tryz.func364.trans (congrArg some (by kernel_rfl))⟩
  f22 := ⟨Tryz.f365.name, by decide, Tryz.func365.trans (congrArg some (by kernel_rfl))⟩
  f23 := ⟨Tryz.f366.name, by decide, Tryz.func366.trans (congrArg some (by kernel_rfl))⟩
  f24 := ⟨Tryz.f367.name, by decide, Tryz.func367.trans (congrArg some (by kernel_rfl))⟩
  f25 := ⟨Tryz.f368.name, by decide, Tryz.func368.trans (congrArg some (by kernel_rfl))⟩
  f26 := ⟨Tryz.f369.name, by decide, Tryz.func369.trans (congrArg some (by kernel_rfl))⟩
  f27 := ⟨Tryz.f370.name, by decide, Tryz.func370.trans (congrArg some (by kernel_rfl))⟩
  f28 := ⟨Tryz.f371.name, by decide, Tryz.func371.trans (congrArg some (by kernel_rfl))⟩
  f29 := ⟨Tryz.f372.name, by decide, Tryz.func372.trans (congrArg some (by kernel_rfl))⟩
  f31 := Tryz.func360.trans (congrArg some (by kernel_rfl))
  f32 := Tryz.func361.trans (congrArg some (by kernel_rfl))
  f36 := ⟨Tryz.f381.name, by decide, Tryz.func381.trans (congrArg some (by kernel_rfl))⟩
  f37 := ⟨Tryz.f382.name, by decide, Tryz.func382.trans (congrArg some (by kernel_rfl))⟩
  f38 := ⟨Tryz.f383.name, by decide, Tryz.func383.trans (congrArg some (by kernel_rfl))⟩
  f39 := ⟨Tryz.f384.name, by decide, Tryz.func384.trans (congrArg some (by kernel_rfl))⟩
  f41 := ⟨Tryz.f391.name, by decide, Tryz.func391.trans (congrArg some (by kernel_rfl))⟩
  t0 := Tryz.underlying0
  a0 := Tryz.isAgg0
  z0 := Tryz.sizeOf0
  v0 := Tryz.zeroValue0
  t3 := Tryz.underlying3
  a3 := Tryz.isAgg3
  z3 := Tryz.sizeOf3
  v3 := Tryz.zeroValue3
  t4 := Tryz.underlying4
  a4 := Tryz.isAgg4
  z4 := Tryz.sizeOf4
  v4 := Tryz.zeroValue4
  t5 := Tryz.underlying5
  a5 := Tryz.isAgg5
  z5 := Tryz.sizeOf5
  v5 := Tryz.zeroValue5
  t9 := Tryz.underlying9
  a9 := Tryz.isAgg9
  z9 := Tryz.sizeOf9
  v9 := Tryz.zeroValue9
  t26 := Tryz.underlying50
  a26 := Tryz.isAgg50
  z26 := Tryz.sizeOf50
  v26 := Tryz.zeroValue50
  t27 := Tryz.underlying50
  a27 := Tryz.isAgg50
  z27 := Tryz.sizeOf50
  v27 := Tryz.zeroValue50
  t29 := Tryz.underlying9
  a29 := Tryz.isAgg9
  z29 := Tryz.sizeOf9
  v29 := Tryz.zeroValue9
  t32 := Tryz.underlying337
  a32 := Tryz.isAgg337
  z32 := Tryz.sizeOf337
  v32 := Tryz.zeroValue337
  t35 := Tryz.underlying406
  a35 := Tryz.isAgg406
  z35 := Tryz.sizeOf406
  v35 := Tryz.zeroValue406
  t36 := Tryz.underlying407
  a36 := Tryz.isAgg407
  z36 := Tryz.sizeOf407
  v36 := Tryz.zeroValue407
  t41 := Tryz.underlying207
  a41 := Tryz.isAgg207
  z41 := Tryz.sizeOf207
  v41 := Tryz.zeroValue207
  t44 := Tryz.underlying340
  a44 := Tryz.isAgg340
  z44 := Tryz.sizeOf340
  v44 := Tryz.zeroValue340
  t46 := Tryz.underlying341
  a46 := Tryz.isAgg341
  z46 := Tryz.sizeOf341
  v46 := Tryz.zeroValue341
  t53 := Tryz.underlying434
  a53 := Tryz.isAgg434
  z53 := Tryz.sizeOf434
  v53 := Tryz.zeroValue434
  t57 := Tryz.underlying438
  a57 := Tryz.isAgg438
  z57 := Tryz.sizeOf438
  v57 := Tryz.zeroValue438
  t63 := Tryz.underlying446
  a63 := Tryz.isAgg446
  z63 := Tryz.sizeOf446
  v63 := Tryz.zeroValue446
  t64 := Tryz.underlying374
  a64 := Tryz.isAgg374
  z64 := Tryz.sizeOf374
  v64 := Tryz.zeroValue374 }
end Go.Proofs
