/-
  No cell of these rows narrows 'for every input' (looked for: loops, veiled, ifaces, maps, wideKeys, modest, calm, conditions, laid).
  DERIVED. THE GIVEN ROWS OF THIS SEAT. 5 by the template 'for every input the law returns true; each argument reads behind the call as it read before'; 0 by the template 'total and deterministic' (their statements: YtcljddfmelnniaaTotals.lean).
  GIVEN WITH THE SEED: the statements are not yours to turn. If you find one false, say at which input.
  Laid BY PROGRAM, IN A SANDBOX (cutbox-rows.mjs): the forced cells as the released guide's own fill.sh prints them over the translation 4dafc8dc64848463… (all of the seat's roots in one cut). By AI agents, Wed Nov 11 2026. No macro, syntax, notation, axiom, sorry.
-/
import Derived.Test.YtcljddfmelnniaaChecked
import GoSem.Claim
import GoSem.ClaimJoined
import GoSem.ClaimMapViews
import Derived.JoinedTies
import Derived.KernelRfl
namespace Go.Proofs.Ytcljddfmelnniaa
/- THE CELL 'sum', in the pinned program and in every row, IS THE sha256 OF THE DUMP (.gsa) THAT YtcljddfmelnniaaProg.lean LOADS. Nothing in Lean hashes anything: it is a label: what it is worth is what the hold of that sum in a sandbox is worth. -/
noncomputable def Try.pinned : Pinned := { name := "ytcljddfmelnniaa", sum := "4dafc8dc648484636966022c4e847daa665f114f9eea7b4cdf2d7352a995b692", checked := Try.checked }
namespace Rows
def none {H : Type} : Left H := { results := [], args := [] }

/-- 'lightshiplaw11.PrimTells': WHATEVER THE INPUT: true; the input reads as it did. -/
def primTellsSpec : ChangeSpec := { name := "primTells", fn := fun _ => fun
  | [d1, d2, d3, d4, d5] => { results := [.lit (.bool true)], args := [d1, d2, d3, d4, d5] }
  | _ => none }
def primTellsRow : OpenClaim := { program := "ytcljddfmelnniaa", sum := "4dafc8dc648484636966022c4e847daa665f114f9eea7b4cdf2d7352a995b692", func := "lightship/lightshiplaw11.PrimTells", spec := "primTells", unfollowed := true, recurses := true, apart := false }
def PrimTellsSaid : Prop := primTellsRow.holds Try.pinned (OpenSpec.ofChange primTellsSpec)

/-- ITS FALSE NEIGHBOUR: 'it returns false'. Refute it at one input. -/
def primTellsWrong : ChangeSpec := { name := "primTells", fn := fun _ => fun
  | [d1, d2, d3, d4, d5] => { results := [.lit (.bool false)], args := [d1, d2, d3, d4, d5] }
  | _ => none }
def PrimTellsWrongFalsely : Prop := primTellsRow.holds Try.pinned (OpenSpec.ofChange primTellsWrong)

/-- 'lightshiplaw11.PrimStarts': WHATEVER THE INPUT: true; the input reads as it did. -/
def primStartsSpec : ChangeSpec := { name := "primStarts", fn := fun _ => fun
  | [d1, d2, d3] => { results := [.lit (.bool true)], args := [d1, d2, d3] }
  | _ => none }
def primStartsRow : OpenClaim := { program := "ytcljddfmelnniaa", sum := "4dafc8dc648484636966022c4e847daa665f114f9eea7b4cdf2d7352a995b692", func := "lightship/lightshiplaw11.PrimStarts", spec := "primStarts", unfollowed := true, recurses := true, apart := false }
def PrimStartsSaid : Prop := primStartsRow.holds Try.pinned (OpenSpec.ofChange primStartsSpec)

/-- ITS FALSE NEIGHBOUR: 'it returns false'. Refute it at one input. -/
def primStartsWrong : ChangeSpec := { name := "primStarts", fn := fun _ => fun
  | [d1, d2, d3] => { results := [.lit (.bool false)], args := [d1, d2, d3] }
  | _ => none }
def PrimStartsWrongFalsely : Prop := primStartsRow.holds Try.pinned (OpenSpec.ofChange primStartsWrong)

/-- 'lightshiplaw11.PrimNames': WHATEVER THE INPUT: true; the input reads as it did. -/
def primNamesSpec : ChangeSpec := { name := "primNames", fn := fun _ => fun
  | [d] => { results := [.lit (.bool true)], args := [d] }
  | _ => none }
def primNamesRow : OpenClaim := { program := "ytcljddfmelnniaa", sum := "4dafc8dc648484636966022c4e847daa665f114f9eea7b4cdf2d7352a995b692", func := "lightship/lightshiplaw11.PrimNames", spec := "primNames", unfollowed := true, recurses := true, apart := false }
def PrimNamesSaid : Prop := primNamesRow.holds Try.pinned (OpenSpec.ofChange primNamesSpec)

/-- ITS FALSE NEIGHBOUR: 'it returns false'. Refute it at one input. -/
def primNamesWrong : ChangeSpec := { name := "primNames", fn := fun _ => fun
  | [d] => { results := [.lit (.bool false)], args := [d] }
  | _ => none }
def PrimNamesWrongFalsely : Prop := primNamesRow.holds Try.pinned (OpenSpec.ofChange primNamesWrong)

/-- 'lightshiplaw11.PrimWords': WHATEVER THE INPUT: true; the input reads as it did. -/
def primWordsSpec : ChangeSpec := { name := "primWords", fn := fun _ => fun
  | [d1, d2, d3] => { results := [.lit (.bool true)], args := [d1, d2, d3] }
  | _ => none }
def primWordsRow : OpenClaim := { program := "ytcljddfmelnniaa", sum := "4dafc8dc648484636966022c4e847daa665f114f9eea7b4cdf2d7352a995b692", func := "lightship/lightshiplaw11.PrimWords", spec := "primWords", unfollowed := true, recurses := true, apart := false }
def PrimWordsSaid : Prop := primWordsRow.holds Try.pinned (OpenSpec.ofChange primWordsSpec)

/-- ITS FALSE NEIGHBOUR: 'it returns false'. Refute it at one input. -/
def primWordsWrong : ChangeSpec := { name := "primWords", fn := fun _ => fun
  | [d1, d2, d3] => { results := [.lit (.bool false)], args := [d1, d2, d3] }
  | _ => none }
def PrimWordsWrongFalsely : Prop := primWordsRow.holds Try.pinned (OpenSpec.ofChange primWordsWrong)

/-- 'lightshiplaw11.PrimCalls': WHATEVER THE INPUT: true; the input reads as it did. -/
def primCallsSpec : ChangeSpec := { name := "primCalls", fn := fun _ => fun
  | [d1, d2, d3] => { results := [.lit (.bool true)], args := [d1, d2, d3] }
  | _ => none }
def primCallsRow : OpenClaim := { program := "ytcljddfmelnniaa", sum := "4dafc8dc648484636966022c4e847daa665f114f9eea7b4cdf2d7352a995b692", func := "lightship/lightshiplaw11.PrimCalls", spec := "primCalls", unfollowed := true, recurses := true, apart := false }
def PrimCallsSaid : Prop := primCallsRow.holds Try.pinned (OpenSpec.ofChange primCallsSpec)

/-- ITS FALSE NEIGHBOUR: 'it returns false'. Refute it at one input. -/
def primCallsWrong : ChangeSpec := { name := "primCalls", fn := fun _ => fun
  | [d1, d2, d3] => { results := [.lit (.bool false)], args := [d1, d2, d3] }
  | _ => none }
def PrimCallsWrongFalsely : Prop := primCallsRow.holds Try.pinned (OpenSpec.ofChange primCallsWrong)

/- THE SECOND FORM. 'bulk': how many values and letters a reading holds, each counted each time it is reached (what is shared counts as often as it is met; a slice's spare places count too). A statement '..UptoSaid' is the law's where the arguments, and the package variables that the reading takes, are together of bulk at most 1048576: NARROWER than '..Said'. Prove '..Said' where nothing that the law and all that it calls make is longer than what came in: it says more and counts as full. Else prove '..UptoSaid'. A law counts once. -/
mutual
def uptoBulk {H : Type} : DataW H → Nat
  | .lit (.string bytes) => bytes.length + 1
  | .lit _ => 1
  | .nil => 1
  | .ptr d => uptoBulk d + 1
  | .slice elems spare => uptoBulkAll elems + uptoBulkAll spare + 1
  | .agg parts => uptoBulkAll parts + 1
  | .iface _ d => uptoBulk d + 1
  | .map entries => uptoBulkEntries entries + 1
  | .held _ => 1
def uptoBulkAll {H : Type} : List (DataW H) → Nat
  | [] => 0
  | d :: r => uptoBulk d + uptoBulkAll r
def uptoBulkEntries {H : Type} : List (Lit × DataW H) → Nat
  | [] => 0
  | x :: r => uptoBulkEntry x + uptoBulkEntries r
def uptoBulkEntry {H : Type} : Lit × DataW H → Nat
  | (.string bytes, d) => bytes.length + uptoBulk d + 1
  | (_, d) => uptoBulk d + 1
 end
def uptoSmall : (H : Type) → List (DataW H) → Bool := fun _ ds => decide (uptoBulkAll ds ≤ 1048576)
def OpenSpec.upto (s : _root_.Go.ChangeSpec) : _root_.Go.OpenSpec := { _root_.Go.OpenSpec.ofChange s with cond := some uptoSmall }

/-- 'lightshiplaw11.PrimTells', WHERE WHAT IT READS IS OF BULK AT MOST 1048576: true; the input reads as it did. -/
def primTellsUptoRow : OpenClaim := { program := "ytcljddfmelnniaa", sum := "4dafc8dc648484636966022c4e847daa665f114f9eea7b4cdf2d7352a995b692", func := "lightship/lightshiplaw11.PrimTells", spec := "primTells", unfollowed := true, recurses := true, apart := false, narrowed := true }
def PrimTellsUptoSaid : Prop := primTellsUptoRow.holds Try.pinned (OpenSpec.upto primTellsSpec)

/-- 'lightshiplaw11.PrimStarts', WHERE WHAT IT READS IS OF BULK AT MOST 1048576: true; the input reads as it did. -/
def primStartsUptoRow : OpenClaim := { program := "ytcljddfmelnniaa", sum := "4dafc8dc648484636966022c4e847daa665f114f9eea7b4cdf2d7352a995b692", func := "lightship/lightshiplaw11.PrimStarts", spec := "primStarts", unfollowed := true, recurses := true, apart := false, narrowed := true }
def PrimStartsUptoSaid : Prop := primStartsUptoRow.holds Try.pinned (OpenSpec.upto primStartsSpec)

/-- 'lightshiplaw11.PrimNames', WHERE WHAT IT READS IS OF BULK AT MOST 1048576: true; the input reads as it did. -/
def primNamesUptoRow : OpenClaim := { program := "ytcljddfmelnniaa", sum := "4dafc8dc648484636966022c4e847daa665f114f9eea7b4cdf2d7352a995b692", func := "lightship/lightshiplaw11.PrimNames", spec := "primNames", unfollowed := true, recurses := true, apart := false, narrowed := true }
def PrimNamesUptoSaid : Prop := primNamesUptoRow.holds Try.pinned (OpenSpec.upto primNamesSpec)

/-- 'lightshiplaw11.PrimWords', WHERE WHAT IT READS IS OF BULK AT MOST 1048576: true; the input reads as it did. -/
def primWordsUptoRow : OpenClaim := { program := "ytcljddfmelnniaa", sum := "4dafc8dc648484636966022c4e847daa665f114f9eea7b4cdf2d7352a995b692", func := "lightship/lightshiplaw11.PrimWords", spec := "primWords", unfollowed := true, recurses := true, apart := false, narrowed := true }
def PrimWordsUptoSaid : Prop := primWordsUptoRow.holds Try.pinned (OpenSpec.upto primWordsSpec)

/-- 'lightshiplaw11.PrimCalls', WHERE WHAT IT READS IS OF BULK AT MOST 1048576: true; the input reads as it did. -/
def primCallsUptoRow : OpenClaim := { program := "ytcljddfmelnniaa", sum := "4dafc8dc648484636966022c4e847daa665f114f9eea7b4cdf2d7352a995b692", func := "lightship/lightshiplaw11.PrimCalls", spec := "primCalls", unfollowed := true, recurses := true, apart := false, narrowed := true }
def PrimCallsUptoSaid : Prop := primCallsUptoRow.holds Try.pinned (OpenSpec.upto primCallsSpec)

end Rows
end Go.Proofs.Ytcljddfmelnniaa
