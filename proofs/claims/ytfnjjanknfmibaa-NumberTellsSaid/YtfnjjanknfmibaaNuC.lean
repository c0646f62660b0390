/-
  Package number: a letter between quotes; a point at the end; the value of digits; Read.
-/
import Derived.Test.YtfnjjanknfmibaaNuB
namespace Go.Proofs.Ytfnjjanknfmibaa
open Go.RowKit Go.Deep
set_option linter.unusedVariables false

theorem nQuoted_any (w : World) (l : List UInt8) : Calls Try.prog 46 #[str l] w fun e w' => e = .returned (.tuple #[.int .u32 (((quoN l).getD 0 : Nat) : Int), .bool (quoN l).isSome]) ∧ w = w' := by
  by_cases h3 : l.length = 3
  · obtain ⟨a, c, z, rfl⟩ : ∃ a c z, l = [a, c, z] := by
      match l, h3 with
      | [a, c, z], _ => exact ⟨a, c, z, rfl⟩
    have i0 : ∀ W, (Instr.index 9 (.string ⟨[a, c, z].toArray⟩) (.int .i64 0)).run Try.prog W = .ok (bv a) W := fun W => run_str_at W [a, c, z] 0 a rfl
    have i1 : ∀ W, (Instr.index 9 (.string ⟨[a, c, z].toArray⟩) (.int .i64 1)).run Try.prog W = .ok (bv c) W := fun W => run_str_at W [a, c, z] 1 c rfl
    have i2 : ∀ W, (Instr.index 9 (.string ⟨[a, c, z].toArray⟩) (.int .i64 2)).run Try.prog W = .ok (bv z) W := fun W => run_str_at W [a, c, z] 2 z rfl
    have hsz := str_size [a, c, z]
    have hq : quoN [a, c, z] = if a.toNat = 39 ∧ z.toNat = 39 ∧ 32 ≤ c.toNat ∧ c.toNat ≤ 126 then some c.toNat else none := rfl
    rw [hq]
    clear hq h3
    unfold str
    unfold bv at i0 i1 i2
    generalize ByteArray.mk [a, c, z].toArray = S at *
    simp only [List.length_cons, List.length_nil, Nat.zero_add, Nat.reduceAdd] at hsz
    have hc := c.toNat_lt
    generalize a.toNat = x at *
    generalize z.toNat = y at *
    generalize c.toNat = n at *
    by_cases hx : x = 39
    · subst hx
      by_cases hy : y = 39
      · subst hy
        by_cases h1 : 32 ≤ n
        · have h1' : decide ((n : Int) < 32) = false := decide_eq_false (by omega)
          by_cases h2 : n ≤ 126
          · have h2' : decide ((126 : Int) < (n : Int)) = false := decide_eq_false (by omega)
            rw [if_pos ⟨rfl, rfl, h1, h2⟩]
            clear h1 h2
            go_enter Try.func46, Try.ntmps46
            go_wp2
            exact bodyPost_ret (v := .tuple #[.int .u32 (n : Int), .bool true]) (by simp [results, Try.results46, go_sem]) rfl ⟨rfl, rfl⟩
          · have h2' : decide ((126 : Int) < (n : Int)) = true := decide_eq_true (by omega)
            rw [if_neg (fun h => h2 h.2.2.2)]
            clear h1 h2
            go_enter Try.func46, Try.ntmps46
            go_wp2
            exact bodyPost_ret (v := .tuple #[.int .u32 0, .bool false]) (by simp [results, Try.results46, go_sem]) rfl ⟨rfl, rfl⟩
        · have h1' : decide ((n : Int) < 32) = true := decide_eq_true (by omega)
          rw [if_neg (fun h => h1 h.2.2.1)]
          clear h1
          go_enter Try.func46, Try.ntmps46
          go_wp2
          exact bodyPost_ret (v := .tuple #[.int .u32 0, .bool false]) (by simp [results, Try.results46, go_sem]) rfl ⟨rfl, rfl⟩
      · have hy' : ((y : Int) == 39) = false := by simp; omega
        have hy2 : ((y : Int) != 39) = true := by simp; omega
        rw [if_neg (fun h => hy h.2.1)]
        clear hy
        go_enter Try.func46, Try.ntmps46
        go_wp2
        exact bodyPost_ret (v := .tuple #[.int .u32 0, .bool false]) (by simp [results, Try.results46, go_sem]) rfl ⟨rfl, rfl⟩
    · have hx' : ((x : Int) == 39) = false := by simp; omega
      have hx2 : ((x : Int) != 39) = true := by simp; omega
      rw [if_neg (fun h => hx h.1)]
      clear hx
      go_enter Try.func46, Try.ntmps46
      go_wp2
      exact bodyPost_ret (v := .tuple #[.int .u32 0, .bool false]) (by simp [results, Try.results46, go_sem]) rfl ⟨rfl, rfl⟩
  · have hq : quoN l = none := by
      match l, h3 with
      | [], _ => rfl
      | [_], _ => rfl
      | [_, _], _ => rfl
      | [_, _, _], h => exact absurd rfl h
      | _ :: _ :: _ :: _ :: _, _ => rfl
    rw [hq]
    have hsz := str_size l
    unfold str
    generalize ByteArray.mk l.toArray = S at *
    generalize l.length = m at *
    have hn : ((m : Int) == 3) = false := by simp; omega
    have hn2 : ((m : Int) != 3) = true := by simp; omega
    clear h3 hq
    go_enter Try.func46, Try.ntmps46
    go_wp2
    exact bodyPost_ret (v := .tuple #[.int .u32 0, .bool false]) (by simp [results, Try.results46, go_sem]) rfl ⟨rfl, rfl⟩

theorem str_toList (l : List UInt8) : (ByteArray.mk l.toArray).toList = l := ByteArray.toList_mk l

theorem nHasSuffix_any (w : World) (l : List UInt8) (hl : l.length ≤ maxLen) : Calls Try.prog 81 #[str l, str [46]] w fun e w' => e = .returned (.bool (decide (l.getLast? = some 46))) ∧ w = w' := by
  have hml : maxLen = 9223372036854775807 := rfl
  have hsz := str_size l
  have hsz1 := str_size [46]
  by_cases h0 : l = []
  · subst h0
    unfold str
    simp only [List.length_nil, List.length_cons, Nat.zero_add] at hsz hsz1
    generalize ByteArray.mk ([] : List UInt8).toArray = S at *
    generalize ByteArray.mk [46].toArray = D at *
    go_enter Try.func81, Try.ntmps81
    go_wp2
    go_ret
    exact ⟨rfl, rfl⟩
  · obtain ⟨k, c, rfl⟩ : ∃ k c, l = k ++ [c] := ⟨l.dropLast, l.getLast h0, (List.dropLast_concat_getLast h0).symm⟩
    have hs := fun W => run_str_from W (k ++ [c]) k.length (by simp)
    have hd : (k ++ [c]).drop k.length = [c] := by simp
    rw [hd] at hs
    have hL := str_toList [c]
    have hD := str_toList [46]
    have hln : (k ++ [c]).length = k.length + 1 := by simp
    rw [hln] at hsz hl
    have he : (k ++ [c]).getLast? = some c := by simp
    rw [he]
    clear h0 he hd hln
    unfold str at *
    generalize ByteArray.mk (k ++ [c]).toArray = S at *
    generalize ByteArray.mk [c].toArray = E at *
    generalize ByteArray.mk [46].toArray = D at *
    simp only [List.length_nil, List.length_cons, Nat.zero_add] at hsz1
    generalize k.length = m at *
    obtain ⟨q, hq⟩ : ∃ q, q = decide (some c = some (46 : UInt8)) := ⟨_, rfl⟩
    have hcmp : (E.toList == D.toList) = q := by
      rw [hL, hD, hq]
      by_cases hc : c = 46
      · subst hc; rfl
      · rw [decide_eq_false (fun h => hc (Option.some.inj h))]
        simp [hc]
    rw [← hq]
    clear hq hL hD
    obtain ⟨M, hM⟩ : ∃ M, M = m + 1 := ⟨_, rfl⟩
    rw [← hM] at hsz hl
    have hge : decide (1 ≤ M) = true := decide_eq_true (by omega)
    have hge2 : decide ((1 : Int) ≤ (M : Int)) = true := decide_eq_true (by omega)
    have hMm : (M : Int) - 1 = (m : Int) := by omega
    have hM1 : 1 ≤ M := by omega
    clear hM
    go_enter Try.func81, Try.ntmps81
    go_wp2
    go_ret
    exact ⟨rfl, rfl⟩

theorem nCut2_any (w : World) (l : List UInt8) (hl : l.length ≤ maxLen) : Calls Try.prog 71 #[str l, str [46]] w fun e w' => e = .returned (.tuple #[str (cutP l).1, .bool (cutP l).2]) ∧ w = w' := by
  have hml : maxLen = 9223372036854775807 := rfl
  have HS := Lib.hid (nHasSuffix_any w l hl)
  unfold cutP
  by_cases h : l.getLast? = some 46
  · rw [decide_eq_true h] at HS
    rw [if_pos h]
    have h0 : l ≠ [] := by rintro rfl; simp at h
    have hp : 1 ≤ l.length := by cases l; exact absurd rfl h0; simp
    obtain ⟨m, hm⟩ : ∃ m, l.length = m + 1 := ⟨l.length - 1, by omega⟩
    have hs := fun W => run_str_to W l m (by omega)
    have hd : l.take m = l.dropLast := by rw [List.dropLast_eq_take, hm]; rfl
    rw [hd] at hs
    have hsz := str_size l
    have hsz1 := str_size [46]
    rw [hm] at hsz hl
    unfold str at *
    generalize ByteArray.mk l.toArray = S at *
    generalize ByteArray.mk l.dropLast.toArray = E at *
    generalize ByteArray.mk [46].toArray = D at *
    simp only [List.length_nil, List.length_cons, Nat.zero_add] at hsz1
    obtain ⟨M, hM⟩ : ∃ M, M = m + 1 := ⟨_, rfl⟩
    rw [← hM] at hsz hl
    have hMm : (M : Int) - 1 = (m : Int) := by omega
    clear h h0 hp hm hd hM
    go_enter Try.func71, Try.ntmps71
    go_wp2_with (go_at_call 81; refine HS.out.mono ?_; rintro e w' ⟨rfl, rfl⟩)
    exact bodyPost_ret (v := .tuple #[.string E, .bool true]) (by simp [results, Try.results71, go_sem]) rfl ⟨rfl, rfl⟩
  · rw [decide_eq_false h] at HS
    rw [if_neg h]
    unfold str at *
    generalize ByteArray.mk l.toArray = S at *
    generalize ByteArray.mk [46].toArray = D at *
    clear h
    go_enter Try.func71, Try.ntmps71
    go_wp2_with (go_at_call 81; refine HS.out.mono ?_; rintro e w' ⟨rfl, rfl⟩)
    exact bodyPost_ret (v := .tuple #[.string S, .bool false]) (by simp [results, Try.results71, go_sem]) rfl ⟨rfl, rfl⟩

theorem nCut_any (w : World) (l : List UInt8) (hl : l.length ≤ maxLen) : Calls Try.prog 48 #[str l, str [46]] w fun e w' => e = .returned (.tuple #[str (cutP l).1, .bool (cutP l).2]) ∧ w = w' := by
  have HS := Lib.hid (nCut2_any w l hl)
  generalize (cutP l).2 = q at *
  unfold str at *
  generalize ByteArray.mk (cutP l).1.toArray = E at *
  generalize ByteArray.mk l.toArray = S at *
  generalize ByteArray.mk [46].toArray = D at *
  go_enter Try.func48, Try.ntmps48
  go_wp2_with (go_at_call 71; refine HS.out.mono ?_; rintro e w' ⟨rfl, rfl⟩)
  exact bodyPost_ret (v := .tuple #[.string E, .bool q]) (by simp [results, Try.results48, go_sem]) rfl ⟨rfl, rfl⟩
end Go.Proofs.Ytfnjjanknfmibaa
