/-
  FlashErase answers true, whatever it is given.
-/
import Derived.Test.YtpcgckppdnlccaaLawCopy
import Derived.Deep.QuietTactic
import Derived.BigQuiet
namespace Go.Proofs.Ytpcgckppdnlccaa
open Go.RowKit Go.Deep

set_option maxRecDepth 100000 in
set_option maxHeartbeats 1000000 in
theorem FlashErase_short (w : World) (v1 : Value) (l : List PutD) (h1 : PutsAt w w.heap.size v1 l) (sec : Int) (ao : Option Addr) (n cap : Nat) (hn : n ≠ 256) :
    Calls Try.prog 6 #[v1, .int .u8 sec, .slice ao n cap] w fun e w' => e = .returned (.bool true) ∧ Keeps [] w w' := by
  have hb : ((n : Int) != 256) = true := by simp; omega
  have H1 := Lib.hid h1
  clear h1 hn
  go_enter Try.func6, Try.ntmps6
  go_wp2_with fail
  refine (after_any _ w.heap.size v1 l H1.out).mono ?_
  rintro e w1 ⟨F, B, W, M, rfl, gF, gB, gW, hF, hK⟩
  have HK1 := Lib.hid hK
  clear hF hK
  go_wp2_with (go_at_call 10; refine (awake_any _).mono ?_; rintro e w2 ⟨rfl, hK2⟩)
  go_ret
  exact ⟨rfl, HK1.out.trans hK2⟩

def E0 (s : FS) (S : Nat) : FS := { s with wear := s.wear.set S 1, bs := span s.bs (S * 256) 256 (gSet 255) }
def E1 (s : FS) (S : Nat) (m : List UInt8) : FS := { s with wear := s.wear.set S 1, bs := span s.bs (S * 256) 256 fun i c => gSet (m.getD i 0) i c, down := true, armed := false, left := 0, mask := [] }
def E2 (s : FS) (S : Nat) (m : List UInt8) : FS := (E1 s S m).up
def E3 (s : FS) (S : Nat) (m : List UInt8) : FS := { E2 s S m with wear := s.wear.set S 2, bs := span (E2 s S m).bs (S * 256) 256 (gSet 255) }

theorem wear_eight {S : Nat} (hS : S < 8) : (([0, 0, 0, 0, 0, 0, 0, 0] : List Int).getD S 0 = 0) ∧ (([0, 0, 0, 0, 0, 0, 0, 0] : List Int).set S 1).getD S 0 = 1 ∧ ((([0, 0, 0, 0, 0, 0, 0, 0] : List Int).set S 1).set S 2 = ([0, 0, 0, 0, 0, 0, 0, 0] : List Int).set S 2) := by
  match S, hS with
  | 0, _ => decide
  | 1, _ => decide
  | 2, _ => decide
  | 3, _ => decide
  | 4, _ => decide
  | 5, _ => decide
  | 6, _ => decide
  | 7, _ => decide

section
variable {s : FS} (h : Plain s) {S : Nat} (hS : S < 8) (m : List UInt8)
include h hS
theorem e0 : s.erase S = (E0 s S, 0) := by
  rw [FS.erase_let h.down (by rw [h.wear]; show 0 ≤ (S : Int) ∧ (S : Int) < ((8 : Nat) : Int); omega), FS.let_whole]
  · unfold E0
    simp only [Int.toNat_natCast, h.wear, (wear_eight hS).1]
    rfl
  · exact h.armed
theorem e1 (hm : m.length ≤ 2048) : (s.arm 0 m).erase S = (E1 s S m, 12) := by
  have hmk : (s.arm 0 m).mask = m := by show m.take s.bs.length = m; rw [h.len, List.take_of_length_le hm]
  rw [FS.erase_let rfl (by show 0 ≤ (S : Int) ∧ (S : Int) < (s.wear.length : Int); rw [h.wear]; show 0 ≤ (S : Int) ∧ (S : Int) < ((8 : Nat) : Int); omega), FS.let_torn rfl rfl]
  unfold E1
  simp only [Int.toNat_natCast, hmk]
  have hw : (s.arm 0 m).wear = s.wear := rfl
  simp only [hw, h.wear, (wear_eight hS).1]
  rfl
theorem e3 : (E2 s S m).erase S = (E3 s S m, 0) := by
  have hw : (E2 s S m).wear = s.wear.set S 1 := rfl
  rw [FS.erase_let rfl (by rw [hw, List.length_set, h.wear]; show 0 ≤ (S : Int) ∧ (S : Int) < ((8 : Nat) : Int); omega), FS.let_whole rfl]
  unfold E3
  simp only [Int.toNat_natCast, hw, h.wear, (wear_eight hS).2.1]
  rw [← (wear_eight hS).2.2]
  rfl
omit hS in
theorem E0len : (E0 s S).bs.length = 2048 := by show (span _ _ _ _).length = _; rw [span_length, h.len]
omit hS in
theorem E2len : (E2 s S m).bs.length = 2048 := by unfold E2 FS.up E1; dsimp only; rw [span_length, h.len]
omit hS in
theorem E3len : (E3 s S m).bs.length = 2048 := by show (span _ _ _ _).length = _; rw [span_length, E2len h m]
end

theorem span_get (bs : List UInt8) (a n : Nat) (g : Nat → UInt8 → UInt8) (i : Nat) (c : UInt8) (hc : bs[i]? = some c) :
    (span bs a n g)[i]? = some (if a ≤ i ∧ i < a + n then g (i - a) c else c) := by
  simp [span, List.getElem?_mapIdx, hc]

theorem span_same (bs : List UInt8) (a n : Nat) (f : Nat → UInt8 → UInt8) : span (span bs a n f) a n (gSet 255) = span bs a n (gSet 255) := by
  refine List.ext_getElem? fun j => ?_
  simp only [span, List.getElem?_mapIdx, Option.map_map]
  congr 1
  funext c
  simp only [Function.comp, gSet]
  split <;> rfl

theorem E3bs (s : FS) (S : Nat) (m : List UInt8) : (E3 s S m).bs = (E0 s S).bs := by
  unfold E3 E2 FS.up E1 E0
  dsimp only
  exact span_same _ _ _ _
end Go.Proofs.Ytpcgckppdnlccaa
