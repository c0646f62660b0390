/-
  No cell of these rows narrows 'for every input' (looked for: loops, veiled, ifaces, maps, wideKeys, modest, calm, conditions, laid).
  DERIVED. THE GIVEN ROWS OF THIS SEAT. 6 by the template 'for every input the law returns true; each argument reads behind the call as it read before'; 0 by the template 'total and deterministic' (their statements: YtfnjjanknfmibaaTotals.lean).
  GIVEN WITH THE SEED: the statements are not yours to turn. If you find one false, say at which input.
  Laid BY PROGRAM, IN A SANDBOX (cutbox-rows.mjs): the forced cells as the released guide's own fill.sh prints them over the translation b57feebfed483434… (all of the seat's roots in one cut). By AI agents, Wed Nov 11 2026. No macro, syntax, notation, axiom, sorry.
-/
import Derived.Test.YtfnjjanknfmibaaChecked
import GoSem.Claim
import GoSem.ClaimJoined
import GoSem.ClaimMapViews
import Derived.JoinedTies
import Derived.KernelRfl
namespace Go.Proofs.Ytfnjjanknfmibaa
/- THE CELL 'sum', in the pinned program and in every row, IS THE sha256 OF THE DUMP (.gsa) THAT YtfnjjanknfmibaaProg.lean LOADS. Nothing in Lean hashes anything: it is a label: what it is worth is what the hold of that sum in a sandbox is worth. -/
noncomputable def Try.pinned : Pinned := { name := "ytfnjjanknfmibaa", sum := "b57feebfed48343410c36aba399274f1fef8245e9155f8fc3462216bbbe337da", checked := Try.checked }
namespace Rows
def none {H : Type} : Left H := { results := [], args := [] }

/-- 'lightshiplaw11.PrimTells': WHATEVER THE INPUT: true; the input reads as it did. -/
def primTellsSpec : ChangeSpec := { name := "primTells", fn := fun _ => fun
  | [d1, d2, d3, d4, d5] => { results := [.lit (.bool true)], args := [d1, d2, d3, d4, d5] }
  | _ => none }
def primTellsRow : OpenClaim := { program := "ytfnjjanknfmibaa", sum := "b57feebfed48343410c36aba399274f1fef8245e9155f8fc3462216bbbe337da", func := "lightship/lightshiplaw11.PrimTells", spec := "primTells", unfollowed := true, recurses := true, apart := false }
def PrimTellsSaid : Prop := primTellsRow.holds Try.pinned (OpenSpec.ofChange primTellsSpec)

/-- ITS FALSE NEIGHBOUR: 'it returns false'. Refute it at one input. -/
def primTellsWrong : ChangeSpec := { name := "primTells", fn := fun _ => fun
  | [d1, d2, d3, d4, d5] => { results := [.lit (.bool false)], args := [d1, d2, d3, d4, d5] }
  | _ => none }
def PrimTellsWrongFalsely : Prop := primTellsRow.holds Try.pinned (OpenSpec.ofChange primTellsWrong)

/-- 'lightshiplaw13.NumberTells': WHATEVER THE INPUT: true; the input reads as it did. -/
def numberTellsSpec : ChangeSpec := { name := "numberTells", fn := fun _ => fun
  | [d1, d2, d3, d4, d5, d6] => { results := [.lit (.bool true)], args := [d1, d2, d3, d4, d5, d6] }
  | _ => none }
def numberTellsRow : OpenClaim := { program := "ytfnjjanknfmibaa", sum := "b57feebfed48343410c36aba399274f1fef8245e9155f8fc3462216bbbe337da", func := "lightship/lightshiplaw13.NumberTells", spec := "numberTells", apart := false }
def NumberTellsSaid : Prop := numberTellsRow.holds Try.pinned (OpenSpec.ofChange numberTellsSpec)

/-- ITS FALSE NEIGHBOUR: 'it returns false'. Refute it at one input. -/
def numberTellsWrong : ChangeSpec := { name := "numberTells", fn := fun _ => fun
  | [d1, d2, d3, d4, d5, d6] => { results := [.lit (.bool false)], args := [d1, d2, d3, d4, d5, d6] }
  | _ => none }
def NumberTellsWrongFalsely : Prop := numberTellsRow.holds Try.pinned (OpenSpec.ofChange numberTellsWrong)

/-- 'lightshiplaw13.NumberBack': WHATEVER THE INPUT: true; the input reads as it did. -/
def numberBackSpec : ChangeSpec := { name := "numberBack", fn := fun _ => fun
  | [d1, d2, d3, d4] => { results := [.lit (.bool true)], args := [d1, d2, d3, d4] }
  | _ => none }
def numberBackRow : OpenClaim := { program := "ytfnjjanknfmibaa", sum := "b57feebfed48343410c36aba399274f1fef8245e9155f8fc3462216bbbe337da", func := "lightship/lightshiplaw13.NumberBack", spec := "numberBack", apart := false }
def NumberBackSaid : Prop := numberBackRow.holds Try.pinned (OpenSpec.ofChange numberBackSpec)

/-- ITS FALSE NEIGHBOUR: 'it returns false'. Refute it at one input. -/
def numberBackWrong : ChangeSpec := { name := "numberBack", fn := fun _ => fun
  | [d1, d2, d3, d4] => { results := [.lit (.bool false)], args := [d1, d2, d3, d4] }
  | _ => none }
def NumberBackWrongFalsely : Prop := numberBackRow.holds Try.pinned (OpenSpec.ofChange numberBackWrong)

/-- 'lightshiplaw13.NumberSteps': WHATEVER THE INPUT: true; the input reads as it did. -/
def numberStepsSpec : ChangeSpec := { name := "numberSteps", fn := fun _ => fun
  | [d1, d2, d3] => { results := [.lit (.bool true)], args := [d1, d2, d3] }
  | _ => none }
def numberStepsRow : OpenClaim := { program := "ytfnjjanknfmibaa", sum := "b57feebfed48343410c36aba399274f1fef8245e9155f8fc3462216bbbe337da", func := "lightship/lightshiplaw13.NumberSteps", spec := "numberSteps", apart := false }
def NumberStepsSaid : Prop := numberStepsRow.holds Try.pinned (OpenSpec.ofChange numberStepsSpec)

/-- ITS FALSE NEIGHBOUR: 'it returns false'. Refute it at one input. -/
def numberStepsWrong : ChangeSpec := { name := "numberSteps", fn := fun _ => fun
  | [d1, d2, d3] => { results := [.lit (.bool false)], args := [d1, d2, d3] }
  | _ => none }
def NumberStepsWrongFalsely : Prop := numberStepsRow.holds Try.pinned (OpenSpec.ofChange numberStepsWrong)

/-- 'lightshiplaw13.NumberSigns': WHATEVER THE INPUT: true; the input reads as it did. -/
def numberSignsSpec : ChangeSpec := { name := "numberSigns", fn := fun _ => fun
  | [d1, d2, d3] => { results := [.lit (.bool true)], args := [d1, d2, d3] }
  | _ => none }
def numberSignsRow : OpenClaim := { program := "ytfnjjanknfmibaa", sum := "b57feebfed48343410c36aba399274f1fef8245e9155f8fc3462216bbbe337da", func := "lightship/lightshiplaw13.NumberSigns", spec := "numberSigns", apart := false }
def NumberSignsSaid : Prop := numberSignsRow.holds Try.pinned (OpenSpec.ofChange numberSignsSpec)

/-- ITS FALSE NEIGHBOUR: 'it returns false'. Refute it at one input. -/
def numberSignsWrong : ChangeSpec := { name := "numberSigns", fn := fun _ => fun
  | [d1, d2, d3] => { results := [.lit (.bool false)], args := [d1, d2, d3] }
  | _ => none }
def NumberSignsWrongFalsely : Prop := numberSignsRow.holds Try.pinned (OpenSpec.ofChange numberSignsWrong)

/-- 'lightshiplaw13.NumberNone': WHATEVER THE INPUT: true; the input reads as it did. -/
def numberNoneSpec : ChangeSpec := { name := "numberNone", fn := fun _ => fun
  | [d1, d2, d3] => { results := [.lit (.bool true)], args := [d1, d2, d3] }
  | _ => none }
def numberNoneRow : OpenClaim := { program := "ytfnjjanknfmibaa", sum := "b57feebfed48343410c36aba399274f1fef8245e9155f8fc3462216bbbe337da", func := "lightship/lightshiplaw13.NumberNone", spec := "numberNone", apart := false }
def NumberNoneSaid : Prop := numberNoneRow.holds Try.pinned (OpenSpec.ofChange numberNoneSpec)

/-- ITS FALSE NEIGHBOUR: 'it returns false'. Refute it at one input. -/
def numberNoneWrong : ChangeSpec := { name := "numberNone", fn := fun _ => fun
  | [d1, d2, d3] => { results := [.lit (.bool false)], args := [d1, d2, d3] }
  | _ => none }
def NumberNoneWrongFalsely : Prop := numberNoneRow.holds Try.pinned (OpenSpec.ofChange numberNoneWrong)

/- THE SECOND FORM. 'bulk': how many values and letters a reading holds, each counted each time it is reached (what is shared counts as often as it is met; a slice's spare places count too). A statement '..UptoSaid' is the law's where the arguments, and the package variables that the reading takes, are together of bulk at most 1048576: NARROWER than '..Said'. Prove '..Said' where nothing that the law and all that it calls make is longer than what came in: it says more and counts as full. Else prove '..UptoSaid'. A law counts once. -/
mutual
def uptoBulk {H : Type} : DataW H → Nat
  | .lit (.string bytes) => bytes.length + 1
  | .lit _ => 1
  | .nil => 1
  | .ptr d => uptoBulk d + 1
  | .slice elems spare => uptoBulkAll elems + uptoBulkAll spare + 1
  | .agg parts => uptoBulkAll parts + 1
  | .iface _ d => uptoBulk d + 1
  | .map entries => uptoBulkEntries entries + 1
  | .held _ => 1
def uptoBulkAll {H : Type} : List (DataW H) → Nat
  | [] => 0
  | d :: r => uptoBulk d + uptoBulkAll r
def uptoBulkEntries {H : Type} : List (Lit × DataW H) → Nat
  | [] => 0
  | x :: r => uptoBulkEntry x + uptoBulkEntries r
def uptoBulkEntry {H : Type} : Lit × DataW H → Nat
  | (.string bytes, d) => bytes.length + uptoBulk d + 1
  | (_, d) => uptoBulk d + 1
 end
def uptoSmall : (H : Type) → List (DataW H) → Bool := fun _ ds => decide (uptoBulkAll ds ≤ 1048576)
def OpenSpec.upto (s : _root_.Go.ChangeSpec) : _root_.Go.OpenSpec := { _root_.Go.OpenSpec.ofChange s with cond := some uptoSmall }

/-- 'lightshiplaw11.PrimTells', WHERE WHAT IT READS IS OF BULK AT MOST 1048576: true; the input reads as it did. -/
def primTellsUptoRow : OpenClaim := { program := "ytfnjjanknfmibaa", sum := "b57feebfed48343410c36aba399274f1fef8245e9155f8fc3462216bbbe337da", func := "lightship/lightshiplaw11.PrimTells", spec := "primTells", unfollowed := true, recurses := true, apart := false, narrowed := true }
def PrimTellsUptoSaid : Prop := primTellsUptoRow.holds Try.pinned (OpenSpec.upto primTellsSpec)

/-- 'lightshiplaw13.NumberTells', WHERE WHAT IT READS IS OF BULK AT MOST 1048576: true; the input reads as it did. -/
def numberTellsUptoRow : OpenClaim := { program := "ytfnjjanknfmibaa", sum := "b57feebfed48343410c36aba399274f1fef8245e9155f8fc3462216bbbe337da", func := "lightship/lightshiplaw13.NumberTells", spec := "numberTells", apart := false, narrowed := true }
def NumberTellsUptoSaid : Prop := numberTellsUptoRow.holds Try.pinned (OpenSpec.upto numberTellsSpec)

/-- 'lightshiplaw13.NumberBack', WHERE WHAT IT READS IS OF BULK AT MOST 1048576: true; the input reads as it did. -/
def numberBackUptoRow : OpenClaim := { program := "ytfnjjanknfmibaa", sum := "b57feebfed48343410c36aba399274f1fef8245e9155f8fc3462216bbbe337da", func := "lightship/lightshiplaw13.NumberBack", spec := "numberBack", apart := false, narrowed := true }
def NumberBackUptoSaid : Prop := numberBackUptoRow.holds Try.pinned (OpenSpec.upto numberBackSpec)

/-- 'lightshiplaw13.NumberSteps', WHERE WHAT IT READS IS OF BULK AT MOST 1048576: true; the input reads as it did. -/
def numberStepsUptoRow : OpenClaim := { program := "ytfnjjanknfmibaa", sum := "b57feebfed48343410c36aba399274f1fef8245e9155f8fc3462216bbbe337da", func := "lightship/lightshiplaw13.NumberSteps", spec := "numberSteps", apart := false, narrowed := true }
def NumberStepsUptoSaid : Prop := numberStepsUptoRow.holds Try.pinned (OpenSpec.upto numberStepsSpec)

/-- 'lightshiplaw13.NumberSigns', WHERE WHAT IT READS IS OF BULK AT MOST 1048576: true; the input reads as it did. -/
def numberSignsUptoRow : OpenClaim := { program := "ytfnjjanknfmibaa", sum := "b57feebfed48343410c36aba399274f1fef8245e9155f8fc3462216bbbe337da", func := "lightship/lightshiplaw13.NumberSigns", spec := "numberSigns", apart := false, narrowed := true }
def NumberSignsUptoSaid : Prop := numberSignsUptoRow.holds Try.pinned (OpenSpec.upto numberSignsSpec)

/-- 'lightshiplaw13.NumberNone', WHERE WHAT IT READS IS OF BULK AT MOST 1048576: true; the input reads as it did. -/
def numberNoneUptoRow : OpenClaim := { program := "ytfnjjanknfmibaa", sum := "b57feebfed48343410c36aba399274f1fef8245e9155f8fc3462216bbbe337da", func := "lightship/lightshiplaw13.NumberNone", spec := "numberNone", apart := false, narrowed := true }
def NumberNoneUptoSaid : Prop := numberNoneUptoRow.holds Try.pinned (OpenSpec.upto numberNoneSpec)

end Rows
end Go.Proofs.Ytfnjjanknfmibaa
