/-
  Numbers as texts: the document's Digit, sign, digits. Written by draft/genref13.py.
-/
import Derived.Test.YtfnjjanknfmibaaNuH
namespace Go.Proofs.Ytfnjjanknfmibaa
open Go.RowKit Go.Deep
set_option linter.unusedVariables false

set_option maxRecDepth 100000 in
set_option maxHeartbeats 1000000 in
theorem r13Digit_none (w : World) (c b : Nat) (hb : ¬ (2 ≤ b ∧ b ≤ 36)) : Calls Try.prog 25 #[.int .u8 (c : Int), .int .u32 (b : Int)] w fun e w' => e = .returned (.tuple #[.int .u32 0, .bool false]) ∧ w = w' := by
  by_cases h1 : b < 2
  · have h1' : decide ((b : Int) < 2) = true := decide_eq_true (by omega)
    clear hb h1
    go_enter Try.func25, Try.ntmps25
    go_wp2
    exact bodyPost_ret (v := .tuple #[.int .u32 0, .bool false]) (by simp [results, Try.results25, go_sem]) rfl ⟨rfl, rfl⟩
  · have h1' : decide ((b : Int) < 2) = false := decide_eq_false (by omega)
    have h2' : decide ((36 : Int) < (b : Int)) = true := decide_eq_true (by omega)
    clear hb h1
    go_enter Try.func25, Try.ntmps25
    go_wp2
    exact bodyPost_ret (v := .tuple #[.int .u32 0, .bool false]) (by simp [results, Try.results25, go_sem]) rfl ⟨rfl, rfl⟩

set_option maxRecDepth 100000 in
set_option maxHeartbeats 1000000 in
theorem r13Digit_d (w : World) (c b : Nat) (hc : c < 256) (hb : 2 ≤ b ∧ b ≤ 36) (h : 48 ≤ c ∧ c ≤ 57) : Calls Try.prog 25 #[.int .u8 (c : Int), .int .u32 (b : Int)] w fun e w' => e = .returned (if c - 48 < b then .tuple #[.int .u32 ((c - 48 : Nat) : Int), .bool true] else .tuple #[.int .u32 0, .bool false]) ∧ w = w' := by
  have b1 : decide ((b : Int) < 2) = false := decide_eq_false (by omega)
  have b2 : decide ((36 : Int) < (b : Int)) = false := decide_eq_false (by omega)
  have f48 : (48 : Int) ≤ (c : Int) := by omega
  have f57 : (c : Int) ≤ 57 := by omega
  have f65 : ¬ (65 : Int) ≤ (c : Int) := by omega
  have f90 : (c : Int) ≤ 90 := by omega
  have f97 : ¬ (97 : Int) ≤ (c : Int) := by omega
  have f122 : (c : Int) ≤ 122 := by omega
  by_cases hlt : c - 48 < b
  · rw [if_pos hlt]
    have hge : decide ((b : Int) ≤ (c : Int) - 48) = false := decide_eq_false (by omega)
    have e : ((c - 48 : Nat) : Int) = (c : Int) - 48 := by omega
    rw [e]
    have g : ¬ (b : Int) ≤ (c : Int) - 48 := by omega
    clear hlt h hb e
    go_enter Try.func25, Try.ntmps25
    go_wp2
    exact bodyPost_ret (v := .tuple #[.int .u32 ((c : Int) - 48), .bool true]) (by simp [results, Try.results25, go_sem]) rfl ⟨rfl, rfl⟩
  · rw [if_neg hlt]
    have g : (b : Int) ≤ (c : Int) - 48 := by omega
    have hge : decide ((b : Int) ≤ (c : Int) - 48) = true := decide_eq_true g
    clear hlt h hb
    go_enter Try.func25, Try.ntmps25
    go_wp2
    exact bodyPost_ret (v := .tuple #[.int .u32 0, .bool false]) (by simp [results, Try.results25, go_sem]) rfl ⟨rfl, rfl⟩

set_option maxRecDepth 100000 in
set_option maxHeartbeats 1000000 in
theorem r13Digit_u (w : World) (c b : Nat) (hc : c < 256) (hb : 2 ≤ b ∧ b ≤ 36) (h : 65 ≤ c ∧ c ≤ 90) : Calls Try.prog 25 #[.int .u8 (c : Int), .int .u32 (b : Int)] w fun e w' => e = .returned (if c - 55 < b then .tuple #[.int .u32 ((c - 55 : Nat) : Int), .bool true] else .tuple #[.int .u32 0, .bool false]) ∧ w = w' := by
  have b1 : decide ((b : Int) < 2) = false := decide_eq_false (by omega)
  have b2 : decide ((36 : Int) < (b : Int)) = false := decide_eq_false (by omega)
  have f48 : (48 : Int) ≤ (c : Int) := by omega
  have f57 : ¬ (c : Int) ≤ 57 := by omega
  have f65 : (65 : Int) ≤ (c : Int) := by omega
  have f90 : (c : Int) ≤ 90 := by omega
  have f97 : ¬ (97 : Int) ≤ (c : Int) := by omega
  have f122 : (c : Int) ≤ 122 := by omega
  by_cases hlt : c - 55 < b
  · rw [if_pos hlt]
    have hge : decide ((b : Int) ≤ (c : Int) - 65 + 10) = false := decide_eq_false (by omega)
    have e : ((c - 55 : Nat) : Int) = (c : Int) - 65 + 10 := by omega
    rw [e]
    have g : ¬ (b : Int) ≤ (c : Int) - 65 + 10 := by omega
    clear hlt h hb e
    go_enter Try.func25, Try.ntmps25
    go_wp2
    exact bodyPost_ret (v := .tuple #[.int .u32 ((c : Int) - 65 + 10), .bool true]) (by simp [results, Try.results25, go_sem]) rfl ⟨rfl, rfl⟩
  · rw [if_neg hlt]
    have g : (b : Int) ≤ (c : Int) - 65 + 10 := by omega
    have hge : decide ((b : Int) ≤ (c : Int) - 65 + 10) = true := decide_eq_true g
    clear hlt h hb
    go_enter Try.func25, Try.ntmps25
    go_wp2
    exact bodyPost_ret (v := .tuple #[.int .u32 0, .bool false]) (by simp [results, Try.results25, go_sem]) rfl ⟨rfl, rfl⟩

set_option maxRecDepth 100000 in
set_option maxHeartbeats 1000000 in
theorem r13Digit_l (w : World) (c b : Nat) (hc : c < 256) (hb : 2 ≤ b ∧ b ≤ 36) (h : 97 ≤ c ∧ c ≤ 122) : Calls Try.prog 25 #[.int .u8 (c : Int), .int .u32 (b : Int)] w fun e w' => e = .returned (if c - 87 < b then .tuple #[.int .u32 ((c - 87 : Nat) : Int), .bool true] else .tuple #[.int .u32 0, .bool false]) ∧ w = w' := by
  have b1 : decide ((b : Int) < 2) = false := decide_eq_false (by omega)
  have b2 : decide ((36 : Int) < (b : Int)) = false := decide_eq_false (by omega)
  have f48 : (48 : Int) ≤ (c : Int) := by omega
  have f57 : ¬ (c : Int) ≤ 57 := by omega
  have f65 : (65 : Int) ≤ (c : Int) := by omega
  have f90 : ¬ (c : Int) ≤ 90 := by omega
  have f97 : (97 : Int) ≤ (c : Int) := by omega
  have f122 : (c : Int) ≤ 122 := by omega
  by_cases hlt : c - 87 < b
  · rw [if_pos hlt]
    have hge : decide ((b : Int) ≤ (c : Int) - 97 + 10) = false := decide_eq_false (by omega)
    have e : ((c - 87 : Nat) : Int) = (c : Int) - 97 + 10 := by omega
    rw [e]
    have g : ¬ (b : Int) ≤ (c : Int) - 97 + 10 := by omega
    clear hlt h hb e
    go_enter Try.func25, Try.ntmps25
    go_wp2
    exact bodyPost_ret (v := .tuple #[.int .u32 ((c : Int) - 97 + 10), .bool true]) (by simp [results, Try.results25, go_sem]) rfl ⟨rfl, rfl⟩
  · rw [if_neg hlt]
    have g : (b : Int) ≤ (c : Int) - 97 + 10 := by omega
    have hge : decide ((b : Int) ≤ (c : Int) - 97 + 10) = true := decide_eq_true g
    clear hlt h hb
    go_enter Try.func25, Try.ntmps25
    go_wp2
    exact bodyPost_ret (v := .tuple #[.int .u32 0, .bool false]) (by simp [results, Try.results25, go_sem]) rfl ⟨rfl, rfl⟩

set_option maxRecDepth 100000 in
set_option maxHeartbeats 1000000 in
theorem r13Digit_a (w : World) (c b : Nat) (hc : c < 256) (hb : 2 ≤ b ∧ b ≤ 36) (h : c < 48) : Calls Try.prog 25 #[.int .u8 (c : Int), .int .u32 (b : Int)] w fun e w' => e = .returned (.tuple #[.int .u32 0, .bool false]) ∧ w = w' := by
  have b1 : decide ((b : Int) < 2) = false := decide_eq_false (by omega)
  have b2 : decide ((36 : Int) < (b : Int)) = false := decide_eq_false (by omega)
  have f48 : ¬ (48 : Int) ≤ (c : Int) := by omega
  have f57 : (c : Int) ≤ 57 := by omega
  have f65 : ¬ (65 : Int) ≤ (c : Int) := by omega
  have f90 : (c : Int) ≤ 90 := by omega
  have f97 : ¬ (97 : Int) ≤ (c : Int) := by omega
  have f122 : (c : Int) ≤ 122 := by omega
  have g : (b : Int) ≤ 99 := by omega
  have hge : decide ((b : Int) ≤ 99) = true := decide_eq_true g
  clear h hb
  go_enter Try.func25, Try.ntmps25
  go_wp2
  exact bodyPost_ret (v := .tuple #[.int .u32 0, .bool false]) (by simp [results, Try.results25, go_sem]) rfl ⟨rfl, rfl⟩

set_option maxRecDepth 100000 in
set_option maxHeartbeats 1000000 in
theorem r13Digit_b (w : World) (c b : Nat) (hc : c < 256) (hb : 2 ≤ b ∧ b ≤ 36) (h : 58 ≤ c ∧ c ≤ 64) : Calls Try.prog 25 #[.int .u8 (c : Int), .int .u32 (b : Int)] w fun e w' => e = .returned (.tuple #[.int .u32 0, .bool false]) ∧ w = w' := by
  have b1 : decide ((b : Int) < 2) = false := decide_eq_false (by omega)
  have b2 : decide ((36 : Int) < (b : Int)) = false := decide_eq_false (by omega)
  have f48 : (48 : Int) ≤ (c : Int) := by omega
  have f57 : ¬ (c : Int) ≤ 57 := by omega
  have f65 : ¬ (65 : Int) ≤ (c : Int) := by omega
  have f90 : (c : Int) ≤ 90 := by omega
  have f97 : ¬ (97 : Int) ≤ (c : Int) := by omega
  have f122 : (c : Int) ≤ 122 := by omega
  have g : (b : Int) ≤ 99 := by omega
  have hge : decide ((b : Int) ≤ 99) = true := decide_eq_true g
  clear h hb
  go_enter Try.func25, Try.ntmps25
  go_wp2
  exact bodyPost_ret (v := .tuple #[.int .u32 0, .bool false]) (by simp [results, Try.results25, go_sem]) rfl ⟨rfl, rfl⟩

set_option maxRecDepth 100000 in
set_option maxHeartbeats 1000000 in
theorem r13Digit_e (w : World) (c b : Nat) (hc : c < 256) (hb : 2 ≤ b ∧ b ≤ 36) (h : 91 ≤ c ∧ c ≤ 96) : Calls Try.prog 25 #[.int .u8 (c : Int), .int .u32 (b : Int)] w fun e w' => e = .returned (.tuple #[.int .u32 0, .bool false]) ∧ w = w' := by
  have b1 : decide ((b : Int) < 2) = false := decide_eq_false (by omega)
  have b2 : decide ((36 : Int) < (b : Int)) = false := decide_eq_false (by omega)
  have f48 : (48 : Int) ≤ (c : Int) := by omega
  have f57 : ¬ (c : Int) ≤ 57 := by omega
  have f65 : (65 : Int) ≤ (c : Int) := by omega
  have f90 : ¬ (c : Int) ≤ 90 := by omega
  have f97 : ¬ (97 : Int) ≤ (c : Int) := by omega
  have f122 : (c : Int) ≤ 122 := by omega
  have g : (b : Int) ≤ 99 := by omega
  have hge : decide ((b : Int) ≤ 99) = true := decide_eq_true g
  clear h hb
  go_enter Try.func25, Try.ntmps25
  go_wp2
  exact bodyPost_ret (v := .tuple #[.int .u32 0, .bool false]) (by simp [results, Try.results25, go_sem]) rfl ⟨rfl, rfl⟩

set_option maxRecDepth 100000 in
set_option maxHeartbeats 1000000 in
theorem r13Digit_f (w : World) (c b : Nat) (hc : c < 256) (hb : 2 ≤ b ∧ b ≤ 36) (h : 123 ≤ c) : Calls Try.prog 25 #[.int .u8 (c : Int), .int .u32 (b : Int)] w fun e w' => e = .returned (.tuple #[.int .u32 0, .bool false]) ∧ w = w' := by
  have b1 : decide ((b : Int) < 2) = false := decide_eq_false (by omega)
  have b2 : decide ((36 : Int) < (b : Int)) = false := decide_eq_false (by omega)
  have f48 : (48 : Int) ≤ (c : Int) := by omega
  have f57 : ¬ (c : Int) ≤ 57 := by omega
  have f65 : (65 : Int) ≤ (c : Int) := by omega
  have f90 : ¬ (c : Int) ≤ 90 := by omega
  have f97 : (97 : Int) ≤ (c : Int) := by omega
  have f122 : ¬ (c : Int) ≤ 122 := by omega
  have g : (b : Int) ≤ 99 := by omega
  have hge : decide ((b : Int) ≤ 99) = true := decide_eq_true g
  clear h hb
  go_enter Try.func25, Try.ntmps25
  go_wp2
  exact bodyPost_ret (v := .tuple #[.int .u32 0, .bool false]) (by simp [results, Try.results25, go_sem]) rfl ⟨rfl, rfl⟩

theorem digN_of {b c v : Nat} (hb : 2 ≤ b ∧ b ≤ 36) (hw : worthN c = some v) : digN b c = if v < b then some v else none := by
  unfold digN
  rw [hw]
  simp only [Option.bind]
  by_cases h : v < b
  · rw [if_pos h, if_pos ⟨hb.1, hb.2, h⟩]
  · rw [if_neg h, if_neg (fun hh => h hh.2.2)]
theorem r13Digit_any (w : World) (c b : Nat) (hc : c < 256) : Calls Try.prog 25 #[.int .u8 (c : Int), .int .u32 (b : Int)] w fun e w' => e = .returned (.tuple #[.int .u32 (((digN b c).getD 0 : Nat) : Int), .bool (digN b c).isSome]) ∧ w = w' := by
  by_cases hb : 2 ≤ b ∧ b ≤ 36
  · have some_case : ∀ v, worthN c = some v → Calls Try.prog 25 #[.int .u8 (c : Int), .int .u32 (b : Int)] w (fun e w' => e = .returned (if v < b then .tuple #[.int .u32 ((v : Nat) : Int), .bool true] else .tuple #[.int .u32 0, .bool false]) ∧ w = w') → Calls Try.prog 25 #[.int .u8 (c : Int), .int .u32 (b : Int)] w fun e w' => e = .returned (.tuple #[.int .u32 (((digN b c).getD 0 : Nat) : Int), .bool (digN b c).isSome]) ∧ w = w' := by
      intro v hv k
      rw [digN_of hb hv]
      by_cases h : v < b
      · rw [if_pos h] at k ⊢; exact k
      · rw [if_neg h] at k ⊢; exact k
    by_cases h1 : 48 ≤ c ∧ c ≤ 57
    · exact some_case (c - 48) (by unfold worthN; rw [if_pos h1]) (r13Digit_d w c b hc hb h1)
    · by_cases h2 : 65 ≤ c ∧ c ≤ 90
      · exact some_case (c - 55) (by unfold worthN; rw [if_neg h1, if_pos h2]) (r13Digit_u w c b hc hb h2)
      · by_cases h3 : 97 ≤ c ∧ c ≤ 122
        · exact some_case (c - 87) (by unfold worthN; rw [if_neg h1, if_neg h2, if_pos h3]) (r13Digit_l w c b hc hb h3)
        · have hn : digN b c = none := by unfold digN worthN; rw [if_neg h1, if_neg h2, if_neg h3]; rfl
          rw [hn]
          have ways : c < 48 ∨ (58 ≤ c ∧ c ≤ 64) ∨ (91 ≤ c ∧ c ≤ 96) ∨ 123 ≤ c := by omega
          rcases ways with h | h | h | h
          · exact r13Digit_a w c b hc hb h
          · exact r13Digit_b w c b hc hb h
          · exact r13Digit_e w c b hc hb h
          · exact r13Digit_f w c b hc hb h
  · have hn : digN b c = none := by
      unfold digN
      cases worthN c with
      | none => rfl
      | some v => exact if_neg (fun h => hb ⟨h.1, h.2.1⟩)
    rw [hn]
    exact r13Digit_none w c b hb

/-- The base that a sign says; 0: it is none. -/
def sgnN (c : Nat) : Nat := if c = 35 then 10 else if c = 36 then 16 else if c = 37 then 2 else 0
theorem r13sign_any (w : World) (c : Nat) : Calls Try.prog 51 #[.int .u8 (c : Int)] w fun e w' => e = .returned (.int .u32 (sgnN c : Int)) ∧ w = w' := by
  unfold sgnN
  by_cases h1 : c = 35
  · subst h1
    go_enter Try.func51, Try.ntmps51
    go_wp2
    go_ret
    exact ⟨rfl, rfl⟩
  · rw [if_neg h1]
    by_cases h2 : c = 36
    · subst h2
      go_enter Try.func51, Try.ntmps51
      go_wp2
      go_ret
      exact ⟨rfl, rfl⟩
    · rw [if_neg h2]
      by_cases h3 : c = 37
      · subst h3
        go_enter Try.func51, Try.ntmps51
        go_wp2
        go_ret
        exact ⟨rfl, rfl⟩
      · rw [if_neg h3]
        have q1 : ((c : Int) == 35) = false := by simp; omega
        have q2 : ((c : Int) == 36) = false := by simp; omega
        have q3 : ((c : Int) == 37) = false := by simp; omega
        clear h1 h2 h3
        go_enter Try.func51, Try.ntmps51
        go_wp2
        go_ret
        exact ⟨rfl, rfl⟩

theorem r13letter_any (w : World) (v : Nat) (h : v < 36) : Calls Try.prog 57 #[.int .u64 (v : Int)] w fun e w' => e = .returned (bv (letN v)) ∧ w = w' := by
  have hix : ∀ W, (Instr.index 9 (.string ⟨#[48, 49, 50, 51, 52, 53, 54, 55, 56, 57, 65, 66, 67, 68, 69, 70, 71, 72, 73, 74, 75, 76, 77, 78, 79, 80, 81, 82, 83, 84, 85, 86, 87, 88, 89, 90]⟩) (.int .u64 (v : Int))).run Try.prog W = .ok (bv (letN v)) W := fun W => run_str_atK W .u64 allD v _ (allD_at v h)
  unfold bv at *
  generalize (letN v).toNat = cn at *
  go_enter Try.func57, Try.ntmps57
  go_wp2
  go_ret
  exact ⟨rfl, rfl⟩
theorem r7Cells_any (w : World) (d : Int) (h0 : 0 ≤ d) (h : d < 18446744073709551616) :
    Calls Try.prog 53 #[.int .u64 d] w fun e w' => e = .returned (.tuple #[.int .u32 (d % 4294967296), .int .u32 (d / 4294967296)]) ∧ w = w' := by
  go_enter Try.func53, Try.ntmps53
  go_wp2
  go_ret2
  exact ⟨rfl, rfl⟩

set_option maxRecDepth 100000 in
set_option maxHeartbeats 2000000 in
theorem r13digits_any (w : World) (l : List UInt8) (b : Nat) (hl : l.length ≤ maxLen) : Calls Try.prog 52 #[str l, .int .u32 (b : Int)] w fun e w' =>
    e = .returned (.tuple #[.int .u64 (((valN b l).getD 0 : Nat) : Int), .bool (valN b l).isSome]) ∧ w = w' := by
  have hml : maxLen = 9223372036854775807 := rfl
  have hsz := str_size l
  have HI := Lib.hid (fun (W : World) (k : Nat) (c : UInt8) (h : l[k]? = some c) => run_str_at W l k c h)
  have HE := Lib.hid (show l = [] ↔ l.length = 0 from by cases l <;> simp)
  obtain ⟨m, hm⟩ : ∃ m, m = l.length := ⟨_, rfl⟩
  rw [← hm] at hsz hl
  have HM := Lib.hid hm
  clear hm
  unfold str
  generalize ByteArray.mk l.toArray = S at *
  go_enter Try.func52, Try.ntmps52
  go_wp2
  go_loopw [6, 7] (fun nv i wr => ∃ (j v : Nat) (V : Int), j ≤ m ∧ wr = w ∧ i = .int .i64 (j : Int) ∧ nv = .int .u64 V ∧ Hid (V = (v : Int) ∧ (l.take j).foldl (moreN b) (some 0) = some v)) (fun _ i _ => m - (intOf i).toNat)
  case atStart => exact ⟨0, 0, 0, by omega, rfl, rfl, rfl, ⟨rfl, rfl⟩⟩
  case round =>
    obtain ⟨j, v, V, hj, rfl, rfl, rfl, HV⟩ := hrel
    by_cases hlt : j < m
    · obtain ⟨c, hc⟩ : ∃ c, l[j]? = some c := ⟨_, List.getElem?_eq_getElem (by rw [← HM.out]; exact hlt)⟩
      have hix := fun W => HI.out W j c hc
      have HC := Lib.hid (show l.take (j + 1) = l.take j ++ [c] by rw [List.take_add_one, hc]; rfl)
      have hv64 := fold_lt b (l.take j) (some 0) v (fun m h => by injection h with h; omega) HV.out.2
      have HDG := Lib.hid (r13Digit_any wr c.toNat b c.toNat_lt)
      unfold bv at hix
      generalize hcn : c.toNat = cn at *
      have HCN := Lib.hid hcn
      clear hcn hc
      have none_of : moreN b (some v) c = none → valN b l = none := fun h => by
        unfold valN
        rw [if_neg (fun e => by have := HE.out.1 e; rw [← HM.out] at this; omega), ← List.take_append_drop (j + 1) l, HC.out, List.foldl_append, List.foldl_append, HV.out.2]
        simp only [List.foldl_cons, List.foldl_nil]
        rw [h, more_none]
      cases hd : digN b cn with
      | none =>
        rw [hd] at HDG
        have HN := Lib.hid (none_of (by unfold moreN; simp only [Option.bind]; rw [HCN.out, hd]))
        clear hd none_of
        go_wp2_with (go_at_call 25; refine HDG.out.mono ?_; rintro e w' ⟨rfl, rfl⟩)
        rw [HN.out]
        exact bodyPost_ret (v := .tuple #[.int .u64 0, .bool false]) (by simp [results, Try.results52, go_sem]) rfl ⟨rfl, rfl⟩
      | some d =>
        rw [hd] at HDG
        obtain ⟨hb2, hb36, hdb⟩ := digN_some hd
        obtain ⟨D, hD⟩ : ∃ D : Int, D = (d : Int) := ⟨_, rfl⟩
        obtain ⟨B, hB⟩ : ∃ B : Int, B = (b : Int) := ⟨_, rfl⟩
        obtain ⟨E, hE⟩ : ∃ E : Nat, E = 18446744073709551615 - d := ⟨_, rfl⟩
        obtain ⟨EI, hEI⟩ : ∃ EI : Int, EI = (E : Int) := ⟨_, rfl⟩
        obtain ⟨Q, hQ⟩ : ∃ Q : Nat, Q = E / b := ⟨_, rfl⟩
        obtain ⟨QI, hQI⟩ : ∃ QI : Int, QI = (Q : Int) := ⟨_, rfl⟩
        have e1 : (18446744073709551615 : Int) - D = EI := by rw [hEI, hE, hD]; omega
        have e2 : EI / B = QI := by rw [hQI, hQ, hEI, hB, ← Int.natCast_ediv]
        have e3 : EI.tdiv B = QI := by rw [Int.tdiv_eq_ediv_of_nonneg (by omega), e2]
        have b0 : (B == 0) = false := by simp; omega
        have hfit : (v ≤ Q) ↔ v * b + d < 18446744073709551616 := by
          rw [hQ, Nat.le_div_iff_mul_le (by omega)]
          omega
        have d0 : 0 ≤ D := by omega
        have d1 : D < 36 := by omega
        have B0 : 0 < B := by omega
        have B1 : B ≤ 36 := by omega
        have E0 : 0 ≤ EI := by omega
        have E1 : EI ≤ 18446744073709551615 := by omega
        have Q1 : 0 ≤ QI := by omega
        have Q2 : QI ≤ 18446744073709551615 := by have := Nat.div_le_self E b; omega
        simp only [Option.getD_some, Option.isSome_some] at HDG
        rw [← hD, ← hB] at HDG
        rw [← hB]
        have hVv : V = (v : Int) := HV.out.1
        have V0 : 0 ≤ V := by omega
        have V1 : V < 18446744073709551616 := by omega
        by_cases hle : v ≤ Q
        · have q1 : decide (QI < V) = false := decide_eq_false (by omega)
          have hx := hfit.1 hle
          have HS := Lib.hid (show (l.take (j + 1)).foldl (moreN b) (some 0) = some (v * b + d) by
            rw [HC.out, List.foldl_append, HV.out.2]
            exact more_some (by rw [HCN.out]; exact hd) hx)
          obtain ⟨X, hX⟩ : ∃ X : Int, X = V * B := ⟨_, rfl⟩
          have hX2 : X = ((v * b : Nat) : Int) := by rw [hX, hVv, hB, ← Int.natCast_mul]
          have x0 : 0 ≤ X := by omega
          have x1 : X < 18446744073709551616 := by omega
          have m1 : V * B = X := hX.symm
          have m2 : X % 18446744073709551616 = X := by omega
          obtain ⟨Y, hY⟩ : ∃ Y : Int, Y = X + D := ⟨_, rfl⟩
          have m3 : X + D = Y := hY.symm
          have m4 : Y % 18446744073709551616 = Y := by omega
          have HY := Lib.hid (show Y = ((v * b + d : Nat) : Int) by omega)
          clear hd hb2 hb36 hdb hfit hv64 hD hB hE hEI hQ hQI hle hx hX hX2 hY hVv none_of
          go_wp2_with (go_at_call 25; refine HDG.out.mono ?_; rintro e w' ⟨rfl, rfl⟩)
          go_roundw
          case rel => exact ⟨j + 1, v * b + d, Y, by omega, by first | rfl | trivial, by go_num, rfl, ⟨HY.out, HS.out⟩⟩
          case measure => simp [intOf]; omega
        · have q1 : decide (QI < V) = true := decide_eq_true (by omega)
          have HN := Lib.hid (none_of (by unfold moreN; simp only [Option.bind]; rw [HCN.out, hd]; exact if_neg (fun h => hle (hfit.2 h))))
          clear hd hb2 hb36 hdb hfit hv64 hD hB hE hEI hQ hQI hle hVv none_of
          go_wp2_with (go_at_call 25; refine HDG.out.mono ?_; rintro e w' ⟨rfl, rfl⟩)
          rw [HN.out]
          exact bodyPost_ret (v := .tuple #[.int .u64 0, .bool false]) (by simp [results, Try.results52, go_sem]) rfl ⟨rfl, rfl⟩
    · obtain rfl : j = m := by omega
      have hW : l.foldl (moreN b) (some 0) = some v := by
        have := HV.out.2
        rwa [List.take_of_length_le (by rw [← HM.out]; exact Nat.le_refl _)] at this
      by_cases h0 : l = []
      · obtain rfl : j = 0 := by rw [HM.out, h0]; rfl
        have hz : v = 0 := by rw [h0] at hW; injection hW with hW; exact hW.symm
        obtain rfl : V = 0 := by rw [HV.out.1, hz]; rfl
        have HZ := Lib.hid (show valN b l = none by unfold valN; rw [if_pos h0])
        clear h0 hW hz
        go_wp2
        rw [HZ.out]
        exact bodyPost_ret (v := .tuple #[.int .u64 0, .bool false]) (by simp [results, Try.results52, go_sem]) rfl ⟨rfl, rfl⟩
      · have hp : 0 < j := by rw [HM.out]; cases l; exact absurd rfl h0; simp
        have hp2 : decide ((0 : Int) < (j : Int)) = true := decide_eq_true (by omega)
        have HZ := Lib.hid (show valN b l = some v by unfold valN; rw [if_neg h0]; exact hW)
        clear h0 hW
        go_wp2
        rw [HZ.out]
        exact bodyPost_ret (v := .tuple #[.int .u64 V, .bool true]) (by simp [results, Try.results52, go_sem]) rfl ⟨by rw [HV.out.1]; rfl, rfl⟩
end Go.Proofs.Ytfnjjanknfmibaa
