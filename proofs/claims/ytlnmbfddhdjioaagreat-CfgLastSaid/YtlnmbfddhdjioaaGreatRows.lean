/-
  No cell of these rows narrows 'for every input' (looked for: loops, veiled, ifaces, maps, wideKeys, modest, calm, conditions, laid).
  DERIVED. THE GIVEN ROWS OF THIS SEAT. 2 by the template 'for every input the law returns true; each argument reads behind the call as it read before'; 0 by the template 'total and deterministic' (their statements: YtlnmbfddhdjioaaGreatTotals.lean).
  GIVEN WITH THE SEED: the statements are not yours to turn. If you find one false, say at which input.
  Laid BY PROGRAM, IN A SANDBOX (cutbox-rows.mjs): the forced cells as the released guide's own fill.sh prints them over the translation 39351880445ec07f… (all of the seat's roots in one cut). By AI agents, Wed Nov 11 2026. No macro, syntax, notation, axiom, sorry.
-/
import Derived.Test.YtlnmbfddhdjioaaGreatChecked
import GoSem.Claim
import GoSem.ClaimJoined
import GoSem.ClaimMapViews
import Derived.JoinedTies
import Derived.KernelRfl
namespace Go.Proofs.YtlnmbfddhdjioaaGreat
/- THE CELL 'sum', in the pinned program and in every row, IS THE sha256 OF THE DUMP (.gsa) THAT YtlnmbfddhdjioaaGreatProg.lean LOADS. Nothing in Lean hashes anything: it is a label: what it is worth is what the hold of that sum in a sandbox is worth. -/
noncomputable def Tryz.pinned : Pinned := { name := "ytlnmbfddhdjioaagreat", sum := "39351880445ec07ffe46e1071397b338bbc7c7f6cd12a106dc213f0009b79494", checked := Tryz.checked }
namespace Rows
def none {H : Type} : Left H := { results := [], args := [] }

/-- 'lightshiplaw06.CfgTells': WHATEVER THE INPUT: true; the input reads as it did. -/
def cfgTellsSpec : ChangeSpec := { name := "cfgTells", fn := fun _ => fun
  | [d1, d2, d3, d4] => { results := [.lit (.bool true)], args := [d1, d2, d3, d4] }
  | _ => none }
def cfgTellsRow : OpenClaim := { program := "ytlnmbfddhdjioaagreat", sum := "39351880445ec07ffe46e1071397b338bbc7c7f6cd12a106dc213f0009b79494", func := "lightship/lightshiplaw06.CfgTells", spec := "cfgTells", inPlace := ["internal/bytealg.MakeNoZero", "internal/bytealg.Compare"], unfollowed := true, recurses := true, apart := false }
def CfgTellsSaid : Prop := cfgTellsRow.holds Tryz.pinned (OpenSpec.ofChange cfgTellsSpec)

/-- ITS FALSE NEIGHBOUR: 'it returns false'. Refute it at one input. -/
def cfgTellsWrong : ChangeSpec := { name := "cfgTells", fn := fun _ => fun
  | [d1, d2, d3, d4] => { results := [.lit (.bool false)], args := [d1, d2, d3, d4] }
  | _ => none }
def CfgTellsWrongFalsely : Prop := cfgTellsRow.holds Tryz.pinned (OpenSpec.ofChange cfgTellsWrong)

/-- 'lightshiplaw06.CfgLast': WHATEVER THE INPUT: true; the input reads as it did. -/
def cfgLastSpec : ChangeSpec := { name := "cfgLast", fn := fun _ => fun
  | [d] => { results := [.lit (.bool true)], args := [d] }
  | _ => none }
def cfgLastRow : OpenClaim := { program := "ytlnmbfddhdjioaagreat", sum := "39351880445ec07ffe46e1071397b338bbc7c7f6cd12a106dc213f0009b79494", func := "lightship/lightshiplaw06.CfgLast", spec := "cfgLast", inPlace := ["internal/bytealg.MakeNoZero", "internal/bytealg.Compare"], unfollowed := true, recurses := true, apart := false }
def CfgLastSaid : Prop := cfgLastRow.holds Tryz.pinned (OpenSpec.ofChange cfgLastSpec)

/-- ITS FALSE NEIGHBOUR: 'it returns false'. Refute it at one input. -/
def cfgLastWrong : ChangeSpec := { name := "cfgLast", fn := fun _ => fun
  | [d] => { results := [.lit (.bool false)], args := [d] }
  | _ => none }
def CfgLastWrongFalsely : Prop := cfgLastRow.holds Tryz.pinned (OpenSpec.ofChange cfgLastWrong)

/- THE SECOND FORM. 'bulk': how many values and letters a reading holds, each counted each time it is reached (what is shared counts as often as it is met; a slice's spare places count too). A statement '..UptoSaid' is the law's where the arguments, and the package variables that the reading takes, are together of bulk at most 1048576: NARROWER than '..Said'. Prove '..Said' where nothing that the law and all that it calls make is longer than what came in: it says more and counts as full. Else prove '..UptoSaid'. A law counts once. -/
mutual
def uptoBulk {H : Type} : DataW H → Nat
  | .lit (.string bytes) => bytes.length + 1
  | .lit _ => 1
  | .nil => 1
  | .ptr d => uptoBulk d + 1
  | .slice elems spare => uptoBulkAll elems + uptoBulkAll spare + 1
  | .agg parts => uptoBulkAll parts + 1
  | .iface _ d => uptoBulk d + 1
  | .map entries => uptoBulkEntries entries + 1
  | .held _ => 1
def uptoBulkAll {H : Type} : List (DataW H) → Nat
  | [] => 0
  | d :: r => uptoBulk d + uptoBulkAll r
def uptoBulkEntries {H : Type} : List (Lit × DataW H) → Nat
  | [] => 0
  | x :: r => uptoBulkEntry x + uptoBulkEntries r
def uptoBulkEntry {H : Type} : Lit × DataW H → Nat
  | (.string bytes, d) => bytes.length + uptoBulk d + 1
  | (_, d) => uptoBulk d + 1
 end
def uptoSmall : (H : Type) → List (DataW H) → Bool := fun _ ds => decide (uptoBulkAll ds ≤ 1048576)
def OpenSpec.upto (s : _root_.Go.ChangeSpec) : _root_.Go.OpenSpec := { _root_.Go.OpenSpec.ofChange s with cond := some uptoSmall }

/-- 'lightshiplaw06.CfgTells', WHERE WHAT IT READS IS OF BULK AT MOST 1048576: true; the input reads as it did. -/
def cfgTellsUptoRow : OpenClaim := { program := "ytlnmbfddhdjioaagreat", sum := "39351880445ec07ffe46e1071397b338bbc7c7f6cd12a106dc213f0009b79494", func := "lightship/lightshiplaw06.CfgTells", spec := "cfgTells", inPlace := ["internal/bytealg.MakeNoZero", "internal/bytealg.Compare"], unfollowed := true, recurses := true, apart := false, narrowed := true }
def CfgTellsUptoSaid : Prop := cfgTellsUptoRow.holds Tryz.pinned (OpenSpec.upto cfgTellsSpec)

/-- 'lightshiplaw06.CfgLast', WHERE WHAT IT READS IS OF BULK AT MOST 1048576: true; the input reads as it did. -/
def cfgLastUptoRow : OpenClaim := { program := "ytlnmbfddhdjioaagreat", sum := "39351880445ec07ffe46e1071397b338bbc7c7f6cd12a106dc213f0009b79494", func := "lightship/lightshiplaw06.CfgLast", spec := "cfgLast", inPlace := ["internal/bytealg.MakeNoZero", "internal/bytealg.Compare"], unfollowed := true, recurses := true, apart := false, narrowed := true }
def CfgLastUptoSaid : Prop := cfgLastUptoRow.holds Tryz.pinned (OpenSpec.upto cfgLastSpec)

end Rows
end Go.Proofs.YtlnmbfddhdjioaaGreat
