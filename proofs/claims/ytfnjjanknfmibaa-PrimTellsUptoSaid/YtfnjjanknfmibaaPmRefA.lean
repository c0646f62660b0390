/-
  The document's table: its two lists of texts, a digit of a text, and that the table is what they say.
-/
import Derived.Test.YtfnjjanknfmibaaPmPrims
import Derived.Test.YtfnjjanknfmibaaImStr
import Derived.Deep.Cut
import Derived.Deep.CutRange
import Derived.Deep.CutBlock
namespace Go.Proofs.Ytfnjjanknfmibaa
open Go.RowKit Go.Deep Go.Great
set_option linter.unusedVariables false

def plainV : List Value := plainL.map str
def controlV : List Value := controlL.map str

set_option maxRecDepth 1000000 in
set_option maxHeartbeats 4000000 in
theorem r11plain_any (w : World) : Calls Try.prog 40 #[] w fun e w' => e = .returned (.slice (some ⟨w.heap.size, 0, none⟩) 146 146) ∧ Whole w' w.heap.size 9 plainV ∧ Keeps [] w w' := by
  go_enter Try.func40, Try.ntmps40
  go_upto_region 1 with fail
  refine wp_region_list ?_
  refine wpList_buildSliceTo rfl 70 9 146 _ rfl w.heap.size rfl (some 1) rfl Try.underlying70 plainV.toArray (by kernel_rfl) ?_
  have hW := Whole.new w 9 plainV
  have hK : Keeps [] w (w.alloc (.cells plainV.toArray 9)) := Keeps.alloc [] _ _
  generalize w.alloc (.cells plainV.toArray 9) = V at *
  go_wp2
  go_ret
  exact ⟨rfl, hW, hK⟩

set_option maxRecDepth 1000000 in
set_option maxHeartbeats 4000000 in
theorem r11control_any (w : World) : Calls Try.prog 42 #[] w fun e w' => e = .returned (.slice (some ⟨w.heap.size, 0, none⟩) 80 80) ∧ Whole w' w.heap.size 9 controlV ∧ Keeps [] w w' := by
  go_enter Try.func42, Try.ntmps42
  go_upto_region 1 with fail
  refine wp_region_list ?_
  refine wpList_buildSliceTo rfl 70 9 80 _ rfl w.heap.size rfl (some 1) rfl Try.underlying70 controlV.toArray (by kernel_rfl) ?_
  have hW := Whole.new w 9 controlV
  have hK : Keeps [] w (w.alloc (.cells controlV.toArray 9)) := Keeps.alloc [] _ _
  generalize w.alloc (.cells controlV.toArray 9) = V at *
  go_wp2
  go_ret
  exact ⟨rfl, hW, hK⟩

/-- A digit of a text. -/
def digL (s : List UInt8) (i : Nat) : Nat := (s.getD i 0).toNat - 48
/-- The k-th primitive that the first list tells, and the second. -/
def plainP (k : Nat) : Pm := ⟨1 + k, plainL.getD (2 * k) [], digL (plainL.getD (2 * k + 1) []) 0, digL (plainL.getD (2 * k + 1) []) 1, 0, false, false⟩
def controlP (k : Nat) : Pm :=
  let s := controlL.getD (2 * k + 1) []
  let c := s.getD 2 0
  ⟨101 + k, controlL.getD (2 * k) [], digL s 0, digL s 1, if c = 116 ∨ c = 112 then 1 else digL s 2, c == 116, c == 112⟩

def pmEq (a b : Pm) : Bool := a.num == b.num && a.name == b.name && a.takes == b.takes && a.gives == b.gives && a.ops == b.ops && a.text == b.text && a.jump == b.jump
theorem pmEq_eq {a b : Pm} (h : pmEq a b = true) : a = b := by
  obtain ⟨a1, a2, a3, a4, a5, a6, a7⟩ := a
  obtain ⟨b1, b2, b3, b4, b5, b6, b7⟩ := b
  simp [pmEq] at h
  simp [h]

def pmEqs : List Pm → List Pm → Bool
  | [], [] => true
  | a :: l, b :: k => pmEq a b && pmEqs l k
  | _, _ => false
theorem pmEqs_eq : ∀ {l k : List Pm}, pmEqs l k = true → l = k
  | [], [], _ => rfl
  | a :: l, b :: k, h => by
    simp only [pmEqs, Bool.and_eq_true] at h
    rw [pmEq_eq h.1, pmEqs_eq h.2]

set_option maxRecDepth 100000 in
theorem tab_told : tabL = (List.range 73).map plainP ++ (List.range 40).map controlP := by
  refine pmEqs_eq ?_
  kernel_rfl

set_option maxRecDepth 100000 in
theorem plain_texts : (List.range 73).all (fun k => let s := plainL.getD (2 * k + 1) []; decide (s.length = 2) && s.all fun c => decide (48 ≤ c.toNat ∧ c.toNat ≤ 57)) = true := by kernel_rfl
set_option maxRecDepth 100000 in
theorem control_texts : (List.range 40).all (fun k => let s := controlL.getD (2 * k + 1) []; decide (s.length = 3) && (s.take 2).all (fun c => decide (48 ≤ c.toNat ∧ c.toNat ≤ 57)) && decide (s.getD 2 0 = 116 ∨ s.getD 2 0 = 112 ∨ (48 ≤ (s.getD 2 0).toNat ∧ (s.getD 2 0).toNat ≤ 57))) = true := by kernel_rfl

theorem r11digit_any (w : World) (s : List UInt8) (i : Nat) (c : UInt8) (hc : s[i]? = some c) (h48 : 48 ≤ c.toNat) : Calls Try.prog 41 #[str s, .int .i64 (i : Int)] w fun e w' => e = .returned (.int .i64 ((c.toNat - 48 : Nat) : Int)) ∧ w' = w := by
  have hl := (List.getElem?_eq_some_iff.1 hc).1
  have hcl := c.toNat_lt
  have e1 : IntKind.u8.wrap ((c.toNat : Int) - 48) = ((c.toNat - 48 : Nat) : Int) := by
    rw [show (c.toNat : Int) - 48 = ((c.toNat - 48 : Nat) : Int) by omega]
    exact IntWalk.u8_in _ (by omega)
  have e2 : IntKind.i64.wrap ((c.toNat - 48 : Nat) : Int) = ((c.toNat - 48 : Nat) : Int) := IntWalk.i64_in _ (by omega)
  have hd := run_str_at w s i c hc
  unfold str bv at *
  go_enter Try.func41, Try.ntmps41
  go_wp2
  go_ret
  exact ⟨rfl, rfl⟩
end Go.Proofs.Ytfnjjanknfmibaa
