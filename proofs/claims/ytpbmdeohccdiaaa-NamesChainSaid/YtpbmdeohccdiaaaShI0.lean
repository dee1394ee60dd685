/- A drawn region some of whose operations a guard in the middle leaves out: what is left out is taken first, and then the region goes as the library's walk takes it. -/
import Derived.Test.YtpbmdeohccdiaaaShM0
import Derived.Deep.RegionHeld3
namespace Go.Proofs.Ytpbmdeohccdiaaa.Sh
open Go.RowKit
open Lean Elab Tactic Meta

/-- x alone, without Lean's mending of errors; the state is given back if it fails. -/
def triedOut (x : TacticM Unit) : TacticM Bool := do
  let s ← saveState
  try
    Tactic.withoutRecover x
    pure true
  catch _ =>
    s.restore
    pure false

def laidOut : TacticM Unit := do
  evalTactic (← `(tactic| try simp only [Act.put, List.setIfInBounds_toArray, List.set_cons_zero, List.set_cons_succ]))

partial def idleWalk (keep tac : TSyntax `tactic) : TacticM Unit := withMainContext do
  let t := (← instantiateMVars (← getMainTarget)).consumeMData
  unless t.isAppOfArity ``wpAnyH 9 do throwError "go_region_idle: no 'wpAnyH':\n{t}"
  let args := t.getAppArgs
  let md := args[1]!
  let ops := args[2]!
  let listed := args[6]!
  let ready ← kernelNats (mkApp3 (mkConst ``Region.ready) md ops listed)
  if ready.isEmpty then
    evalTactic (← `(tactic| refine wpAnyH_done (by kernel_rfl) ?_ _))
    return
  for i in ready do
    if ← kernelBool (mkApp4 (mkConst ``Region.free) md ops listed (mkNatLit i)) then
      let some oe := opAt ops i | throwError "go_region_idle: the region is not written out"
      let oStx ← Term.exprToSyntax oe
      -- left out by its guard
      if ← triedOut (do
          evalTactic (← `(tactic| refine wpAnyH_take (i := $(quote i)) (oi := $oStx) (v := undef) rfl (by kernel_rfl) (by kernel_rfl) (by kernel_rfl) (fun _ _ _ h => h) (Or.inr ⟨by rfl, rfl⟩) (by assumption) ?_))
          laidOut) then
        return ← idleWalk keep tac
      if (match opHead ops i with | some n => worldless.contains n | none => false) || opHead ops i == some ``Op.load || takenFirstToo ops i then
        if ← triedOut (do
            evalTactic (← `(tactic| refine wpAnyH_take (i := $(quote i)) (oi := $oStx) (v := ?_) rfl (by kernel_rfl) (by kernel_rfl) (by kernel_rfl) (fun _ _ _ h => h) (Or.inl ⟨by rfl, ?_⟩) (by assumption) ?_))
            let gs ← getGoals
            let [_, hy, rest] := gs | throwError "three goals expected"
            setGoals [hy]
            evalTactic (← `(tactic| (intro w hSw; (try dsimp only at hSw); go_simp)))
            unless (← getGoals).isEmpty do evalTactic (← `(tactic| with_reducible rfl))
            setGoals [rest]
            laidOut) then
          return ← idleWalk keep tac
  let [i] := ready | throwError "go_region_idle: more than one may come up and none is taken first: {ready}"
  let some oe := opAt ops i | throwError "go_region_idle: the region is not written out"
  let oStx ← Term.exprToSyntax oe
  evalTactic (← `(tactic| refine wpAnyH_ready (rs := [$(quote i)]) (by kernel_rfl) (by simp) (AllReadyH.cons (o := $oStx) rfl (fun K hK => ?_) AllReadyH.nil)))
  evalTactic (← `(tactic| go_simp))
  evalTactic tac
  unless (← instantiateMVars (← getMainTarget)).consumeMData.getAppFn.isFVar do evalTactic (← `(tactic| go_wp2_with fail))
  evalTactic (← `(tactic| refine hK.out _ _ ?_ (fun hHeld => ?_)))
  let [hS, rest] ← getGoals | throwError "go_region_idle: behind number {i}: two goals expected:\n{← getMainTarget}"
  setGoals [hS]
  evalTactic (← `(tactic| try dsimp only))
  unless (← getUnsolvedGoals).isEmpty do evalTactic keep
  setGoals [rest]
  evalTactic (← `(tactic| clear hK K))
  laidOut
  clearOldHeld
  idleWalk keep tac

/-- The same three arguments as the library's 'go_region_held3'. -/
elab "go_region_idle " S:term:max ppSpace "(" keep:tactic ")" ppSpace "(" tac:tactic ")" : tactic => withMainContext do
  evalTactic (← `(tactic| refine wp_region_held_drew (S := $S) (by kernel_rfl) ?_ (fun hHeld => ?_)))
  let [hS, rest] ← getGoals | throwError "go_region_idle: two goals expected"
  setGoals [hS]
  evalTactic (← `(tactic| try dsimp only))
  unless (← getUnsolvedGoals).isEmpty do evalTactic keep
  setGoals [rest]
  idleWalk keep tac
end Go.Proofs.Ytpbmdeohccdiaaa.Sh
