/-
  No cell of these rows narrows 'for every input' (looked for: loops, veiled, ifaces, maps, wideKeys, modest, calm, conditions, laid).
  DERIVED. THE GIVEN ROWS OF THIS SEAT. 5 by the template 'for every input the law returns true; each argument reads behind the call as it read before'; 0 by the template 'total and deterministic' (their statements: YtobpfcdfhegbdaaGreatTotals.lean).
  GIVEN WITH THE SEED: the statements are not yours to turn. If you find one false, say at which input.
  Laid BY PROGRAM, IN A SANDBOX (cutbox-rows.mjs): the forced cells as the released guide's own fill.sh prints them over the translation 854f3248ae565b8f… (all of the seat's roots in one cut). By AI agents, Wed Nov 11 2026. No macro, syntax, notation, axiom, sorry.
-/
import Derived.Test.YtobpfcdfhegbdaaGreatChecked
import GoSem.Claim
import GoSem.ClaimJoined
import GoSem.ClaimMapViews
import Derived.JoinedTies
import Derived.KernelRfl
namespace Go.Proofs.YtobpfcdfhegbdaaGreat
/- THE CELL 'sum', in the pinned program and in every row, IS THE sha256 OF THE DUMP (.gsa) THAT YtobpfcdfhegbdaaGreatProg.lean LOADS. Nothing in Lean hashes anything: it is a label: what it is worth is what the hold of that sum in a sandbox is worth. -/
noncomputable def Tryz.pinned : Pinned := { name := "ytobpfcdfhegbdaagreat", sum := "854f3248ae565b8f5866bad06f744127b682f4e047e84ee16e357f8cceda67f0", checked := Tryz.checked }
namespace Rows
def none {H : Type} : Left H := { results := [], args := [] }

/-- 'lightshiplaw12.PlainWhole': WHATEVER THE INPUT: true; the input reads as it did. -/
def plainWholeSpec : ChangeSpec := { name := "plainWhole", fn := fun _ => fun
  | [d1, d2, d3, d4, d5] => { results := [.lit (.bool true)], args := [d1, d2, d3, d4, d5] }
  | _ => none }
def plainWholeRow : OpenClaim := { program := "ytobpfcdfhegbdaagreat", sum := "854f3248ae565b8f5866bad06f744127b682f4e047e84ee16e357f8cceda67f0", func := "lightship/lightshiplaw12.PlainWhole", spec := "plainWhole", unfollowed := true, recurses := true, apart := false }
def PlainWholeSaid : Prop := plainWholeRow.holds Tryz.pinned (OpenSpec.ofChange plainWholeSpec)

/-- ITS FALSE NEIGHBOUR: 'it returns false'. Refute it at one input. -/
def plainWholeWrong : ChangeSpec := { name := "plainWhole", fn := fun _ => fun
  | [d1, d2, d3, d4, d5] => { results := [.lit (.bool false)], args := [d1, d2, d3, d4, d5] }
  | _ => none }
def PlainWholeWrongFalsely : Prop := plainWholeRow.holds Tryz.pinned (OpenSpec.ofChange plainWholeWrong)

/-- 'lightshiplaw12.PlainOrder': WHATEVER THE INPUT: true; the input reads as it did. -/
def plainOrderSpec : ChangeSpec := { name := "plainOrder", fn := fun _ => fun
  | [d1, d2, d3, d4, d5] => { results := [.lit (.bool true)], args := [d1, d2, d3, d4, d5] }
  | _ => none }
def plainOrderRow : OpenClaim := { program := "ytobpfcdfhegbdaagreat", sum := "854f3248ae565b8f5866bad06f744127b682f4e047e84ee16e357f8cceda67f0", func := "lightship/lightshiplaw12.PlainOrder", spec := "plainOrder", unfollowed := true, recurses := true, apart := false }
def PlainOrderSaid : Prop := plainOrderRow.holds Tryz.pinned (OpenSpec.ofChange plainOrderSpec)

/-- ITS FALSE NEIGHBOUR: 'it returns false'. Refute it at one input. -/
def plainOrderWrong : ChangeSpec := { name := "plainOrder", fn := fun _ => fun
  | [d1, d2, d3, d4, d5] => { results := [.lit (.bool false)], args := [d1, d2, d3, d4, d5] }
  | _ => none }
def PlainOrderWrongFalsely : Prop := plainOrderRow.holds Tryz.pinned (OpenSpec.ofChange plainOrderWrong)

/-- 'lightshiplaw12.PlainSums': WHATEVER THE INPUT: true; the input reads as it did. -/
def plainSumsSpec : ChangeSpec := { name := "plainSums", fn := fun _ => fun
  | [d1, d2] => { results := [.lit (.bool true)], args := [d1, d2] }
  | _ => none }
def plainSumsRow : OpenClaim := { program := "ytobpfcdfhegbdaagreat", sum := "854f3248ae565b8f5866bad06f744127b682f4e047e84ee16e357f8cceda67f0", func := "lightship/lightshiplaw12.PlainSums", spec := "plainSums", unfollowed := true, recurses := true, apart := false }
def PlainSumsSaid : Prop := plainSumsRow.holds Tryz.pinned (OpenSpec.ofChange plainSumsSpec)

/-- ITS FALSE NEIGHBOUR: 'it returns false'. Refute it at one input. -/
def plainSumsWrong : ChangeSpec := { name := "plainSums", fn := fun _ => fun
  | [d1, d2] => { results := [.lit (.bool false)], args := [d1, d2] }
  | _ => none }
def PlainSumsWrongFalsely : Prop := plainSumsRow.holds Tryz.pinned (OpenSpec.ofChange plainSumsWrong)

/-- 'lightshiplaw12.PlainMemory': WHATEVER THE INPUT: true; the input reads as it did. -/
def plainMemorySpec : ChangeSpec := { name := "plainMemory", fn := fun _ => fun
  | [d1, d2, d3] => { results := [.lit (.bool true)], args := [d1, d2, d3] }
  | _ => none }
def plainMemoryRow : OpenClaim := { program := "ytobpfcdfhegbdaagreat", sum := "854f3248ae565b8f5866bad06f744127b682f4e047e84ee16e357f8cceda67f0", func := "lightship/lightshiplaw12.PlainMemory", spec := "plainMemory", unfollowed := true, recurses := true, apart := false }
def PlainMemorySaid : Prop := plainMemoryRow.holds Tryz.pinned (OpenSpec.ofChange plainMemorySpec)

/-- ITS FALSE NEIGHBOUR: 'it returns false'. Refute it at one input. -/
def plainMemoryWrong : ChangeSpec := { name := "plainMemory", fn := fun _ => fun
  | [d1, d2, d3] => { results := [.lit (.bool false)], args := [d1, d2, d3] }
  | _ => none }
def PlainMemoryWrongFalsely : Prop := plainMemoryRow.holds Tryz.pinned (OpenSpec.ofChange plainMemoryWrong)

/-- 'lightshiplaw12.PlainNone': WHATEVER THE INPUT: true; the input reads as it did. -/
def plainNoneSpec : ChangeSpec := { name := "plainNone", fn := fun _ => fun
  | [d] => { results := [.lit (.bool true)], args := [d] }
  | _ => none }
def plainNoneRow : OpenClaim := { program := "ytobpfcdfhegbdaagreat", sum := "854f3248ae565b8f5866bad06f744127b682f4e047e84ee16e357f8cceda67f0", func := "lightship/lightshiplaw12.PlainNone", spec := "plainNone", unfollowed := true, recurses := true, apart := false }
def PlainNoneSaid : Prop := plainNoneRow.holds Tryz.pinned (OpenSpec.ofChange plainNoneSpec)

/-- ITS FALSE NEIGHBOUR: 'it returns false'. Refute it at one input. -/
def plainNoneWrong : ChangeSpec := { name := "plainNone", fn := fun _ => fun
  | [d] => { results := [.lit (.bool false)], args := [d] }
  | _ => none }
def PlainNoneWrongFalsely : Prop := plainNoneRow.holds Tryz.pinned (OpenSpec.ofChange plainNoneWrong)

/- THE SECOND FORM. 'bulk': how many values and letters a reading holds, each counted each time it is reached (what is shared counts as often as it is met; a slice's spare places count too). A statement '..UptoSaid' is the law's where the arguments, and the package variables that the reading takes, are together of bulk at most 1048576: NARROWER than '..Said'. Prove '..Said' where nothing that the law and all that it calls make is longer than what came in: it says more and counts as full. Else prove '..UptoSaid'. A law counts once. -/
mutual
def uptoBulk {H : Type} : DataW H → Nat
  | .lit (.string bytes) => bytes.length + 1
  | .lit _ => 1
  | .nil => 1
  | .ptr d => uptoBulk d + 1
  | .slice elems spare => uptoBulkAll elems + uptoBulkAll spare + 1
  | .agg parts => uptoBulkAll parts + 1
  | .iface _ d => uptoBulk d + 1
  | .map entries => uptoBulkEntries entries + 1
  | .held _ => 1
def uptoBulkAll {H : Type} : List (DataW H) → Nat
  | [] => 0
  | d :: r => uptoBulk d + uptoBulkAll r
def uptoBulkEntries {H : Type} : List (Lit × DataW H) → Nat
  | [] => 0
  | x :: r => uptoBulkEntry x + uptoBulkEntries r
def uptoBulkEntry {H : Type} : Lit × DataW H → Nat
  | (.string bytes, d) => bytes.length + uptoBulk d + 1
  | (_, d) => uptoBulk d + 1
 end
def uptoSmall : (H : Type) → List (DataW H) → Bool := fun _ ds => decide (uptoBulkAll ds ≤ 1048576)
def OpenSpec.upto (s : _root_.Go.ChangeSpec) : _root_.Go.OpenSpec := { _root_.Go.OpenSpec.ofChange s with cond := some uptoSmall }

/-- 'lightshiplaw12.PlainWhole', WHERE WHAT IT READS IS OF BULK AT MOST 1048576: true; the input reads as it did. -/
def plainWholeUptoRow : OpenClaim := { program := "ytobpfcdfhegbdaagreat", sum := "854f3248ae565b8f5866bad06f744127b682f4e047e84ee16e357f8cceda67f0", func := "lightship/lightshiplaw12.PlainWhole", spec := "plainWhole", unfollowed := true, recurses := true, apart := false, narrowed := true }
def PlainWholeUptoSaid : Prop := plainWholeUptoRow.holds Tryz.pinned (OpenSpec.upto plainWholeSpec)

/-- 'lightshiplaw12.PlainOrder', WHERE WHAT IT READS IS OF BULK AT MOST 1048576: true; the input reads as it did. -/
def plainOrderUptoRow : OpenClaim := { program := "ytobpfcdfhegbdaagreat", sum := "854f3248ae565b8f5866bad06f744127b682f4e047e84ee16e357f8cceda67f0", func := "lightship/lightshiplaw12.PlainOrder", spec := "plainOrder", unfollowed := true, recurses := true, apart := false, narrowed := true }
def PlainOrderUptoSaid : Prop := plainOrderUptoRow.holds Tryz.pinned (OpenSpec.upto plainOrderSpec)

/-- 'lightshiplaw12.PlainSums', WHERE WHAT IT READS IS OF BULK AT MOST 1048576: true; the input reads as it did. -/
def plainSumsUptoRow : OpenClaim := { program := "ytobpfcdfhegbdaagreat", sum := "854f3248ae565b8f5866bad06f744127b682f4e047e84ee16e357f8cceda67f0", func := "lightship/lightshiplaw12.PlainSums", spec := "plainSums", unfollowed := true, recurses := true, apart := false, narrowed := true }
def PlainSumsUptoSaid : Prop := plainSumsUptoRow.holds Tryz.pinned (OpenSpec.upto plainSumsSpec)

/-- 'lightshiplaw12.PlainMemory', WHERE WHAT IT READS IS OF BULK AT MOST 1048576: true; the input reads as it did. -/
def plainMemoryUptoRow : OpenClaim := { program := "ytobpfcdfhegbdaagreat", sum := "854f3248ae565b8f5866bad06f744127b682f4e047e84ee16e357f8cceda67f0", func := "lightship/lightshiplaw12.PlainMemory", spec := "plainMemory", unfollowed := true, recurses := true, apart := false, narrowed := true }
def PlainMemoryUptoSaid : Prop := plainMemoryUptoRow.holds Tryz.pinned (OpenSpec.upto plainMemorySpec)

/-- 'lightshiplaw12.PlainNone', WHERE WHAT IT READS IS OF BULK AT MOST 1048576: true; the input reads as it did. -/
def plainNoneUptoRow : OpenClaim := { program := "ytobpfcdfhegbdaagreat", sum := "854f3248ae565b8f5866bad06f744127b682f4e047e84ee16e357f8cceda67f0", func := "lightship/lightshiplaw12.PlainNone", spec := "plainNone", unfollowed := true, recurses := true, apart := false, narrowed := true }
def PlainNoneUptoSaid : Prop := plainNoneUptoRow.holds Tryz.pinned (OpenSpec.upto plainNoneSpec)

end Rows
end Go.Proofs.YtobpfcdfhegbdaaGreat
