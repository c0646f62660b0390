/-
  Contracts of package cell: Divide, Symmetric, Floored, whatever they answer; of the document's: Double, Product, Shift, Long.
-/
import Derived.Test.YtfnjjanknfmibaaGreatCellB
namespace Go.Proofs.YtfnjjanknfmibaaGreat
set_option linter.unusedVariables false
open Go.RowKit

theorem cDivide_is (w : World) (lo hi n R Q E : Int) (l0 : 0 ≤ lo) (l1 : lo < 4294967296) (h0 : 0 ≤ hi) (h1 : hi < 4294967296) (n1 : n < 4294967296) (h : Cell.IsDivU (hi * 4294967296 + lo) n R Q E) :
    Calls Tryz.prog 62 #[.int .u32 lo, .int .u32 hi, .int .u32 n] w fun e w' => e = .returned (.tuple #[.int .u32 R, .int .u32 Q, .int .i32 E]) ∧ Keeps [] w w' := by
  rcases h with ⟨rfl, rfl, rfl, rfl⟩ | ⟨n0, hq, rfl, rfl, rfl⟩ | ⟨n0, hq, rfl, rfl, rfl⟩
  · exact (cDivide_zero w lo hi).mono fun e w' ⟨he, hw⟩ => ⟨he, hw ▸ Keeps.refl _ _⟩
  · exact (cDivide_big w lo hi n l0 l1 h0 h1 n0 n1 hq).mono fun e w' ⟨he, hw⟩ => ⟨he, hw ▸ Keeps.refl _ _⟩
  · exact cDivide_small w lo hi n l0 l1 h0 h1 n0 n1 hq

set_option maxHeartbeats 1000000 in
theorem cDivided_zero (w : World) (lo hi : Int) (f : Value) :
    Calls Tryz.prog 150 #[.int .u32 lo, .int .i32 hi, .int .i32 0, f] w fun e w' => e = .returned (.tuple #[.int .i32 0, .int .i32 0, .int .i32 (-10)]) ∧ w = w' := by
  go_enter Tryz.func150, Tryz.ntmps150
  go_wp2
  exact bodyPost_ret (v := .tuple #[.int .i32 0, .int .i32 0, .int .i32 (-10)]) (by simp [results, Tryz.results150, go_sem]) rfl ⟨rfl, rfl⟩

theorem wrap64_of (x : Int) (h0 : -9223372036854775808 ≤ x) (h1 : x < 9223372036854775808) : wrap64 x = x := by unfold wrap64; omega

theorem cDivided_symIs (w : World) (lo hi n R Q E : Int) (l0 : 0 ≤ lo) (l1 : lo < 4294967296) (h0 : -2147483648 ≤ hi) (h1 : hi < 2147483648) (n1 : -2147483648 ≤ n) (n2 : n < 2147483648) (h : Cell.IsDiv false (hi * 4294967296 + lo) n R Q E) :
    Calls Tryz.prog 150 #[.int .u32 lo, .int .i32 hi, .int .i32 n, .func (.func 149) #[] #[]] w fun e w' => e = .returned (.tuple #[.int .i32 R, .int .i32 Q, .int .i32 E]) ∧ Keeps [] w w' := by
  rcases h with ⟨rfl, rfl, rfl, rfl⟩ | ⟨n0, hq, rfl, rfl, rfl⟩ | ⟨n0, hq0, hq1, rfl, rfl, rfl⟩
  · exact (cDivided_zero w lo hi _).mono fun e w' ⟨he, hw⟩ => ⟨he, hw ▸ Keeps.refl _ _⟩
  · rw [Cell.quo_false] at hq
    refine cDivided_sym_big w lo hi n _ _ _ l0 l1 h0 h1 n0 n1 n2 rfl rfl rfl (Cell.tmod_lt _ _ n0) ?_
    rcases Cell.tdiv_cases (hi * 4294967296 + lo) n n0 (by omega) (by omega) with ⟨g0, g1, g2⟩ | ⟨g0, g1⟩
    · rw [wrap64_of _ g0 g1]; exact hq
    · rw [g0]; left; unfold wrap64; omega
  · rw [Cell.quo_false] at hq0 hq1 ⊢
    rw [Cell.rem_false]
    have g := wrap64_of ((hi * 4294967296 + lo).tdiv n) (by omega) (by omega)
    have k := cDivided_sym_small w lo hi n _ _ _ l0 l1 h0 h1 n0 n1 n2 rfl rfl rfl (Cell.tmod_lt _ _ n0) (by rw [g]; exact hq0) (by rw [g]; exact hq1)
    rw [g] at k
    exact k

theorem cDivided_floIs (w : World) (b : Nat) (lo hi n R Q E : Int) (l0 : 0 ≤ lo) (l1 : lo < 4294967296) (h0 : -2147483648 ≤ hi) (h1 : hi < 2147483648) (n1 : -2147483648 ≤ n) (n2 : n < 2147483648) (hc : w.cell? ⟨b, 0, none⟩ = some (.int .i32 n)) (h : Cell.IsDiv true (hi * 4294967296 + lo) n R Q E) :
    Calls Tryz.prog 150 #[.int .u32 lo, .int .i32 hi, .int .i32 n, .func (.func 156) #[] #[.pointer (some ⟨b, 0, none⟩)]] w fun e w' => e = .returned (.tuple #[.int .i32 R, .int .i32 Q, .int .i32 E]) ∧ Keeps [] w w' := by
  rcases h with ⟨rfl, rfl, rfl, rfl⟩ | ⟨n0, hq, rfl, rfl, rfl⟩ | ⟨n0, hq0, hq1, rfl, rfl, rfl⟩
  · exact (cDivided_zero w lo hi _).mono fun e w' ⟨he, hw⟩ => ⟨he, hw ▸ Keeps.refl _ _⟩
  · rw [Cell.quo_true] at hq
    rcases Cell.tdiv_cases (hi * 4294967296 + lo) n n0 (by omega) (by omega) with ⟨g0, g1, g2⟩ | ⟨g0, g1⟩
    · cases hl : Cell.lessB ((hi * 4294967296 + lo).tmod n) n
      · rw [hl] at hq
        exact cDivided_flo_big w b lo hi n _ _ _ l0 l1 h0 h1 n0 n1 n2 rfl rfl rfl (Cell.tmod_lt _ _ n0) hc hl (by rw [wrap64_of _ g0 g1]; exact hq)
      · rw [hl] at hq
        have g3 := g2 (fun e => by rw [e] at hl; cases hl)
        exact cDivided_les_big w b lo hi n _ _ _ l0 l1 h0 h1 n0 n1 n2 rfl rfl rfl (Cell.tmod_lt _ _ n0) hc hl (by rw [wrap64_of _ g0 g1]; exact g3) (by rw [wrap64_of _ g0 g1]; exact hq)
    · exact cDivided_flo_big w b lo hi n _ _ _ l0 l1 h0 h1 n0 n1 n2 rfl rfl rfl (Cell.tmod_lt _ _ n0) hc (by rw [g1]; rfl) (by rw [g0]; left; unfold wrap64; omega)
  · rw [Cell.quo_true] at hq0 hq1 ⊢
    rw [Cell.rem_true]
    rcases Cell.tdiv_cases (hi * 4294967296 + lo) n n0 (by omega) (by omega) with ⟨g0, g1, g2⟩ | ⟨g0, g1⟩
    · have g := wrap64_of _ g0 g1
      cases hl : Cell.lessB ((hi * 4294967296 + lo).tmod n) n
      · rw [hl] at hq0 hq1
        have k := cDivided_flo_small w b lo hi n _ _ _ l0 l1 h0 h1 n0 n1 n2 rfl rfl rfl (Cell.tmod_lt _ _ n0) hc hl (by rw [g]; exact hq0) (by rw [g]; exact hq1)
        rw [g] at k
        exact k
      · rw [hl] at hq0 hq1
        have g3 := g2 (fun e => by rw [e] at hl; cases hl)
        have k := cDivided_les_small w b lo hi n _ _ _ l0 l1 h0 h1 n0 n1 n2 rfl rfl rfl (Cell.tmod_lt _ _ n0) hc hl (by rw [g]; exact g3) (by rw [g]; exact hq0) (by rw [g]; exact hq1)
        rw [g] at k
        exact k
    · rw [g1, g0] at hq1
      rw [show Cell.lessB 0 n = false from rfl] at hq1
      exact absurd hq1 (by decide)

theorem cSymmetric_is (w : World) (lo hi n R Q E : Int) (l0 : 0 ≤ lo) (l1 : lo < 4294967296) (h0 : -2147483648 ≤ hi) (h1 : hi < 2147483648) (n1 : -2147483648 ≤ n) (n2 : n < 2147483648) (h : Cell.IsDiv false (hi * 4294967296 + lo) n R Q E) :
    Calls Tryz.prog 66 #[.int .u32 lo, .int .i32 hi, .int .i32 n] w fun e w' => e = .returned (.tuple #[.int .i32 R, .int .i32 Q, .int .i32 E]) ∧ Keeps [] w w' := by
  have H := Lib.hid h
  clear h
  go_enter Tryz.func66, Tryz.ntmps66
  go_wp2_with (go_at_call 150; refine (cDivided_symIs _ lo hi n R Q E l0 l1 h0 h1 n1 n2 H.out).mono ?_; rintro e w' ⟨rfl, K⟩)
  exact bodyPost_ret (v := .tuple #[.int .i32 R, .int .i32 Q, .int .i32 E]) (by simp [results, Tryz.results66, go_sem]) rfl ⟨rfl, K⟩

theorem cFloored_is (w : World) (lo hi n R Q E : Int) (l0 : 0 ≤ lo) (l1 : lo < 4294967296) (h0 : -2147483648 ≤ hi) (h1 : hi < 2147483648) (n1 : -2147483648 ≤ n) (n2 : n < 2147483648) (h : Cell.IsDiv true (hi * 4294967296 + lo) n R Q E) :
    Calls Tryz.prog 147 #[.int .u32 lo, .int .i32 hi, .int .i32 n] w fun e w' => e = .returned (.tuple #[.int .i32 R, .int .i32 Q, .int .i32 E]) ∧ Keeps [] w w' := by
  have H := Lib.hid h
  clear h
  have hc := cell_alloc_new w #[.int .i32 n] 21 0
  go_enter Tryz.func147, Tryz.ntmps147
  go_wp2_with (go_at_call 150; refine (cDivided_floIs _ w.heap.size lo hi n R Q E l0 l1 h0 h1 n1 n2 (by exact hc) H.out).mono ?_; rintro e w' ⟨rfl, K⟩)
  exact bodyPost_ret (v := .tuple #[.int .i32 R, .int .i32 Q, .int .i32 E]) (by simp [results, Tryz.results147, go_sem]) rfl ⟨rfl, (Keeps.alloc [] _ _).trans K⟩

end Go.Proofs.YtfnjjanknfmibaaGreat
