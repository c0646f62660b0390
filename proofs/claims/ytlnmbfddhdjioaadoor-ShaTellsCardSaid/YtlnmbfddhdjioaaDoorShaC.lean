/-
  Contracts of sha: the circle of eight words.
-/
import Derived.Test.YtlnmbfddhdjioaaDoorShaB
namespace Go.Proofs.YtlnmbfddhdjioaaDoor
open Go.RowKit

theorem wrap_i64 (n : Nat) (h : n < 1000000) : IntKind.i64.wrap (n : Int) = n := IntWalk.i64_in _ (by omega)

set_option maxHeartbeats 400000 in
theorem circAt_any (w : World) (b first i k : Nat) (hf : first < 8) (hi : i < 8) (hk : (first + i) % 8 = k) (hc : w.cell? ⟨b, 8, none⟩ = some (.int .i64 first)) :
    Calls Tryd.prog 31 #[.pointer (some ⟨b, 0, none⟩), .int .i64 i] w fun e w' => e = .returned (.pointer (some ⟨b, k, none⟩)) ∧ ∃ n, w' = w.drewN n := by
  have h1 : IntKind.i64.wrap ((first : Int) + (i : Int)) = ((first + i : Nat) : Int) := by rw [← Int.natCast_add]; exact wrap_i64 _ (by omega)
  have h2 : (((first + i : Nat) : Int)).tmod 8 = (k : Int) := by rw [Int.tmod_eq_emod_of_nonneg (by omega)]; omega
  have h3 : ((first + i : Nat) : Int) % 8 = (k : Int) := by omega
  have h4 : (first : Int) + (i : Int) = ((first + i : Nat) : Int) := by omega
  have hk8 : k < 8 := by omega
  have hk8' : (k : Int) < 8 := by omega
  generalize first + i = s at *
  have HK := Lib.hid hk
  clear hk
  go_enter Tryd.func31, Tryd.ntmps31
  go_wp2
  go_quiet (fail)
  go_wp2
  go_ret
  exact ⟨rfl, _, rfl⟩
end Go.Proofs.YtlnmbfddhdjioaaDoor
