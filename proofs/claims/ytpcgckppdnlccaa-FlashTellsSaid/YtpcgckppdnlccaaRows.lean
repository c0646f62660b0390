/-
  No cell of these rows narrows 'for every input' (looked for: loops, veiled, ifaces, maps, wideKeys, modest, calm, conditions, laid).
  DERIVED. THE GIVEN ROWS OF THIS SEAT. 7 by the template 'for every input the law returns true; each argument reads behind the call as it read before'; 0 by the template 'total and deterministic' (their statements: YtpcgckppdnlccaaTotals.lean).
  GIVEN WITH THE SEED: the statements are not yours to turn. If you find one false, say at which input.
  Laid BY PROGRAM, IN A SANDBOX (cutbox-rows.mjs): the forced cells as the released guide's own fill.sh prints them over the translation 507c8ee726cbd6da… (all of the seat's roots in one cut). By AI agents, Wed Nov 11 2026. No macro, syntax, notation, axiom, sorry.
-/
import Derived.Test.YtpcgckppdnlccaaChecked
import GoSem.Claim
import GoSem.ClaimJoined
import GoSem.ClaimMapViews
import Derived.JoinedTies
import Derived.KernelRfl
namespace Go.Proofs.Ytpcgckppdnlccaa
/- THE CELL 'sum', in the pinned program and in every row, IS THE sha256 OF THE DUMP (.gsa) THAT YtpcgckppdnlccaaProg.lean LOADS. Nothing in Lean hashes anything: it is a label: what it is worth is what the hold of that sum in a sandbox is worth. -/
noncomputable def Try.pinned : Pinned := { name := "ytpcgckppdnlccaa", sum := "507c8ee726cbd6da8ca4ad311bc06021305324b1471542985a239bb481eea4ed", checked := Try.checked }
namespace Rows
def none {H : Type} : Left H := { results := [], args := [] }

/-- 'lightshiplaw01.FlashTells': WHATEVER THE INPUT: true; the input reads as it did. -/
def flashTellsSpec : ChangeSpec := { name := "flashTells", fn := fun _ => fun
  | [d1, d2] => { results := [.lit (.bool true)], args := [d1, d2] }
  | _ => none }
def flashTellsRow : OpenClaim := { program := "ytpcgckppdnlccaa", sum := "507c8ee726cbd6da8ca4ad311bc06021305324b1471542985a239bb481eea4ed", func := "lightship/lightshiplaw01.FlashTells", spec := "flashTells", inPlace := ["internal/bytealg.MakeNoZero"], unfollowed := true, recurses := true, apart := false }
def FlashTellsSaid : Prop := flashTellsRow.holds Try.pinned (OpenSpec.ofChange flashTellsSpec)

/-- ITS FALSE NEIGHBOUR: 'it returns false'. Refute it at one input. -/
def flashTellsWrong : ChangeSpec := { name := "flashTells", fn := fun _ => fun
  | [d1, d2] => { results := [.lit (.bool false)], args := [d1, d2] }
  | _ => none }
def FlashTellsWrongFalsely : Prop := flashTellsRow.holds Try.pinned (OpenSpec.ofChange flashTellsWrong)

/-- 'lightshiplaw01.FlashClears': WHATEVER THE INPUT: true; the input reads as it did. -/
def flashClearsSpec : ChangeSpec := { name := "flashClears", fn := fun _ => fun
  | [d1, d2, d3] => { results := [.lit (.bool true)], args := [d1, d2, d3] }
  | _ => none }
def flashClearsRow : OpenClaim := { program := "ytpcgckppdnlccaa", sum := "507c8ee726cbd6da8ca4ad311bc06021305324b1471542985a239bb481eea4ed", func := "lightship/lightshiplaw01.FlashClears", spec := "flashClears", inPlace := ["internal/bytealg.MakeNoZero"], unfollowed := true, recurses := true, apart := false }
def FlashClearsSaid : Prop := flashClearsRow.holds Try.pinned (OpenSpec.ofChange flashClearsSpec)

/-- ITS FALSE NEIGHBOUR: 'it returns false'. Refute it at one input. -/
def flashClearsWrong : ChangeSpec := { name := "flashClears", fn := fun _ => fun
  | [d1, d2, d3] => { results := [.lit (.bool false)], args := [d1, d2, d3] }
  | _ => none }
def FlashClearsWrongFalsely : Prop := flashClearsRow.holds Try.pinned (OpenSpec.ofChange flashClearsWrong)

/-- 'lightshiplaw01.FlashOrder': WHATEVER THE INPUT: true; the input reads as it did. -/
def flashOrderSpec : ChangeSpec := { name := "flashOrder", fn := fun _ => fun
  | [d] => { results := [.lit (.bool true)], args := [d] }
  | _ => none }
def flashOrderRow : OpenClaim := { program := "ytpcgckppdnlccaa", sum := "507c8ee726cbd6da8ca4ad311bc06021305324b1471542985a239bb481eea4ed", func := "lightship/lightshiplaw01.FlashOrder", spec := "flashOrder", inPlace := ["internal/bytealg.MakeNoZero"], unfollowed := true, recurses := true, apart := false }
def FlashOrderSaid : Prop := flashOrderRow.holds Try.pinned (OpenSpec.ofChange flashOrderSpec)

/-- ITS FALSE NEIGHBOUR: 'it returns false'. Refute it at one input. -/
def flashOrderWrong : ChangeSpec := { name := "flashOrder", fn := fun _ => fun
  | [d] => { results := [.lit (.bool false)], args := [d] }
  | _ => none }
def FlashOrderWrongFalsely : Prop := flashOrderRow.holds Try.pinned (OpenSpec.ofChange flashOrderWrong)

/-- 'lightshiplaw01.FlashErase': WHATEVER THE INPUT: true; the input reads as it did. -/
def flashEraseSpec : ChangeSpec := { name := "flashErase", fn := fun _ => fun
  | [d1, d2, d3] => { results := [.lit (.bool true)], args := [d1, d2, d3] }
  | _ => none }
def flashEraseRow : OpenClaim := { program := "ytpcgckppdnlccaa", sum := "507c8ee726cbd6da8ca4ad311bc06021305324b1471542985a239bb481eea4ed", func := "lightship/lightshiplaw01.FlashErase", spec := "flashErase", inPlace := ["internal/bytealg.MakeNoZero"], unfollowed := true, recurses := true, apart := false }
def FlashEraseSaid : Prop := flashEraseRow.holds Try.pinned (OpenSpec.ofChange flashEraseSpec)

/-- ITS FALSE NEIGHBOUR: 'it returns false'. Refute it at one input. -/
def flashEraseWrong : ChangeSpec := { name := "flashErase", fn := fun _ => fun
  | [d1, d2, d3] => { results := [.lit (.bool false)], args := [d1, d2, d3] }
  | _ => none }
def FlashEraseWrongFalsely : Prop := flashEraseRow.holds Try.pinned (OpenSpec.ofChange flashEraseWrong)

/-- 'lightshiplaw01.FlashArmed': WHATEVER THE INPUT: true; the input reads as it did. -/
def flashArmedSpec : ChangeSpec := { name := "flashArmed", fn := fun _ => fun
  | [d1, d2] => { results := [.lit (.bool true)], args := [d1, d2] }
  | _ => none }
def flashArmedRow : OpenClaim := { program := "ytpcgckppdnlccaa", sum := "507c8ee726cbd6da8ca4ad311bc06021305324b1471542985a239bb481eea4ed", func := "lightship/lightshiplaw01.FlashArmed", spec := "flashArmed", inPlace := ["internal/bytealg.MakeNoZero"], unfollowed := true, recurses := true, apart := false }
def FlashArmedSaid : Prop := flashArmedRow.holds Try.pinned (OpenSpec.ofChange flashArmedSpec)

/-- ITS FALSE NEIGHBOUR: 'it returns false'. Refute it at one input. -/
def flashArmedWrong : ChangeSpec := { name := "flashArmed", fn := fun _ => fun
  | [d1, d2] => { results := [.lit (.bool false)], args := [d1, d2] }
  | _ => none }
def FlashArmedWrongFalsely : Prop := flashArmedRow.holds Try.pinned (OpenSpec.ofChange flashArmedWrong)

/-- 'lightshiplaw01.FlashCopy': WHATEVER THE INPUT: true; the input reads as it did. -/
def flashCopySpec : ChangeSpec := { name := "flashCopy", fn := fun _ => fun
  | [d1, d2] => { results := [.lit (.bool true)], args := [d1, d2] }
  | _ => none }
def flashCopyRow : OpenClaim := { program := "ytpcgckppdnlccaa", sum := "507c8ee726cbd6da8ca4ad311bc06021305324b1471542985a239bb481eea4ed", func := "lightship/lightshiplaw01.FlashCopy", spec := "flashCopy", inPlace := ["internal/bytealg.MakeNoZero"], unfollowed := true, recurses := true, apart := false }
def FlashCopySaid : Prop := flashCopyRow.holds Try.pinned (OpenSpec.ofChange flashCopySpec)

/-- ITS FALSE NEIGHBOUR: 'it returns false'. Refute it at one input. -/
def flashCopyWrong : ChangeSpec := { name := "flashCopy", fn := fun _ => fun
  | [d1, d2] => { results := [.lit (.bool false)], args := [d1, d2] }
  | _ => none }
def FlashCopyWrongFalsely : Prop := flashCopyRow.holds Try.pinned (OpenSpec.ofChange flashCopyWrong)

/-- 'lightshiplaw01.FlashNone': WHATEVER THE INPUT: true; the input reads as it did. -/
def flashNoneSpec : ChangeSpec := { name := "flashNone", fn := fun _ => fun
  | [d1, d2, d3] => { results := [.lit (.bool true)], args := [d1, d2, d3] }
  | _ => none }
def flashNoneRow : OpenClaim := { program := "ytpcgckppdnlccaa", sum := "507c8ee726cbd6da8ca4ad311bc06021305324b1471542985a239bb481eea4ed", func := "lightship/lightshiplaw01.FlashNone", spec := "flashNone", inPlace := ["internal/bytealg.MakeNoZero"], unfollowed := true, recurses := true, apart := false }
def FlashNoneSaid : Prop := flashNoneRow.holds Try.pinned (OpenSpec.ofChange flashNoneSpec)

/-- ITS FALSE NEIGHBOUR: 'it returns false'. Refute it at one input. -/
def flashNoneWrong : ChangeSpec := { name := "flashNone", fn := fun _ => fun
  | [d1, d2, d3] => { results := [.lit (.bool false)], args := [d1, d2, d3] }
  | _ => none }
def FlashNoneWrongFalsely : Prop := flashNoneRow.holds Try.pinned (OpenSpec.ofChange flashNoneWrong)

/- THE SECOND FORM. 'bulk': how many values and letters a reading holds, each counted each time it is reached (what is shared counts as often as it is met; a slice's spare places count too). A statement '..UptoSaid' is the law's where the arguments, and the package variables that the reading takes, are together of bulk at most 1048576: NARROWER than '..Said'. Prove '..Said' where nothing that the law and all that it calls make is longer than what came in: it says more and counts as full. Else prove '..UptoSaid'. A law counts once. -/
mutual
def uptoBulk {H : Type} : DataW H → Nat
  | .lit (.string bytes) => bytes.length + 1
  | .lit _ => 1
  | .nil => 1
  | .ptr d => uptoBulk d + 1
  | .slice elems spare => uptoBulkAll elems + uptoBulkAll spare + 1
  | .agg parts => uptoBulkAll parts + 1
  | .iface _ d => uptoBulk d + 1
  | .map entries => uptoBulkEntries entries + 1
  | .held _ => 1
def uptoBulkAll {H : Type} : List (DataW H) → Nat
  | [] => 0
  | d :: r => uptoBulk d + uptoBulkAll r
def uptoBulkEntries {H : Type} : List (Lit × DataW H) → Nat
  | [] => 0
  | x :: r => uptoBulkEntry x + uptoBulkEntries r
def uptoBulkEntry {H : Type} : Lit × DataW H → Nat
  | (.string bytes, d) => bytes.length + uptoBulk d + 1
  | (_, d) => uptoBulk d + 1
 end
def uptoSmall : (H : Type) → List (DataW H) → Bool := fun _ ds => decide (uptoBulkAll ds ≤ 1048576)
def OpenSpec.upto (s : _root_.Go.ChangeSpec) : _root_.Go.OpenSpec := { _root_.Go.OpenSpec.ofChange s with cond := some uptoSmall }

/-- 'lightshiplaw01.FlashTells', WHERE WHAT IT READS IS OF BULK AT MOST 1048576: true; the input reads as it did. -/
def flashTellsUptoRow : OpenClaim := { program := "ytpcgckppdnlccaa", sum := "507c8ee726cbd6da8ca4ad311bc06021305324b1471542985a239bb481eea4ed", func := "lightship/lightshiplaw01.FlashTells", spec := "flashTells", inPlace := ["internal/bytealg.MakeNoZero"], unfollowed := true, recurses := true, apart := false, narrowed := true }
def FlashTellsUptoSaid : Prop := flashTellsUptoRow.holds Try.pinned (OpenSpec.upto flashTellsSpec)

/-- 'lightshiplaw01.FlashClears', WHERE WHAT IT READS IS OF BULK AT MOST 1048576: true; the input reads as it did. -/
def flashClearsUptoRow : OpenClaim := { program := "ytpcgckppdnlccaa", sum := "507c8ee726cbd6da8ca4ad311bc06021305324b1471542985a239bb481eea4ed", func := "lightship/lightshiplaw01.FlashClears", spec := "flashClears", inPlace := ["internal/bytealg.MakeNoZero"], unfollowed := true, recurses := true, apart := false, narrowed := true }
def FlashClearsUptoSaid : Prop := flashClearsUptoRow.holds Try.pinned (OpenSpec.upto flashClearsSpec)

/-- 'lightshiplaw01.FlashOrder', WHERE WHAT IT READS IS OF BULK AT MOST 1048576: true; the input reads as it did. -/
def flashOrderUptoRow : OpenClaim := { program := "ytpcgckppdnlccaa", sum := "507c8ee726cbd6da8ca4ad311bc06021305324b1471542985a239bb481eea4ed", func := "lightship/lightshiplaw01.FlashOrder", spec := "flashOrder", inPlace := ["internal/bytealg.MakeNoZero"], unfollowed := true, recurses := true, apart := false, narrowed := true }
def FlashOrderUptoSaid : Prop := flashOrderUptoRow.holds Try.pinned (OpenSpec.upto flashOrderSpec)

/-- 'lightshiplaw01.FlashErase', WHERE WHAT IT READS IS OF BULK AT MOST 1048576: true; the input reads as it did. -/
def flashEraseUptoRow : OpenClaim := { program := "ytpcgckppdnlccaa", sum := "507c8ee726cbd6da8ca4ad311bc06021305324b1471542985a239bb481eea4ed", func := "lightship/lightshiplaw01.FlashErase", spec := "flashErase", inPlace := ["internal/bytealg.MakeNoZero"], unfollowed := true, recurses := true, apart := false, narrowed := true }
def FlashEraseUptoSaid : Prop := flashEraseUptoRow.holds Try.pinned (OpenSpec.upto flashEraseSpec)

/-- 'lightshiplaw01.FlashArmed', WHERE WHAT IT READS IS OF BULK AT MOST 1048576: true; the input reads as it did. -/
def flashArmedUptoRow : OpenClaim := { program := "ytpcgckppdnlccaa", sum := "507c8ee726cbd6da8ca4ad311bc06021305324b1471542985a239bb481eea4ed", func := "lightship/lightshiplaw01.FlashArmed", spec := "flashArmed", inPlace := ["internal/bytealg.MakeNoZero"], unfollowed := true, recurses := true, apart := false, narrowed := true }
def FlashArmedUptoSaid : Prop := flashArmedUptoRow.holds Try.pinned (OpenSpec.upto flashArmedSpec)

/-- 'lightshiplaw01.FlashCopy', WHERE WHAT IT READS IS OF BULK AT MOST 1048576: true; the input reads as it did. -/
def flashCopyUptoRow : OpenClaim := { program := "ytpcgckppdnlccaa", sum := "507c8ee726cbd6da8ca4ad311bc06021305324b1471542985a239bb481eea4ed", func := "lightship/lightshiplaw01.FlashCopy", spec := "flashCopy", inPlace := ["internal/bytealg.MakeNoZero"], unfollowed := true, recurses := true, apart := false, narrowed := true }
def FlashCopyUptoSaid : Prop := flashCopyUptoRow.holds Try.pinned (OpenSpec.upto flashCopySpec)

/-- 'lightshiplaw01.FlashNone', WHERE WHAT IT READS IS OF BULK AT MOST 1048576: true; the input reads as it did. -/
def flashNoneUptoRow : OpenClaim := { program := "ytpcgckppdnlccaa", sum := "507c8ee726cbd6da8ca4ad311bc06021305324b1471542985a239bb481eea4ed", func := "lightship/lightshiplaw01.FlashNone", spec := "flashNone", inPlace := ["internal/bytealg.MakeNoZero"], unfollowed := true, recurses := true, apart := false, narrowed := true }
def FlashNoneUptoSaid : Prop := flashNoneUptoRow.holds Try.pinned (OpenSpec.upto flashNoneSpec)

end Rows
end Go.Proofs.Ytpcgckppdnlccaa
