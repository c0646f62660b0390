/-
  Contracts of the document's long numbers: digit, above.
-/
import Derived.Test.YtlnmbfddhdjioaaDoorShaB
import Derived.Test.YtlnmbfddhdjioaaDoorShaLongM
namespace Go.Proofs.YtlnmbfddhdjioaaDoor
open Go.RowKit

/-- A digit as a value. -/
abbrev nv (n : Nat) : Value := .int .u32 (n : Int)

theorem infoU32n : (Tryd.prog.info? 38).map (fun i => (i.zero, i.size, i.bytes)) = some (some (.int .u32 0), 1, 4) := by kernel_rfl

theorem long_list (z : Value) (n : Nat) : (madeCells #[z] n).toList = List.replicate n z := by
  refine List.ext_getElem? fun i => ?_
  simp only [madeCells, Array.toList_map, Array.toList_range, List.getElem?_map, List.getElem?_replicate]
  by_cases h : i < n
  · simp [h, Nat.mod_one]
  · simp [h]

theorem run_long (w : World) (l : Int) (n : Nat) (hl : l = (n : Int)) (hm : n ≤ 1000000) :
    (Instr.makeSlice 53 (.int .i64 l) (.int .i64 l)).run Tryd.prog w = .ok (.slice (some ⟨w.heap.size, 0, none⟩) n n) (w.alloc (.cells (List.replicate n (nv 0)).toArray 38)) := by
  obtain ⟨i0, hi, hz0, hz1, hz2⟩ := info_parts infoU32n
  subst hl
  rw [run_make w 53 38 i0 (.int .u32 0) Tryd.underlying53 hi hz0 .i64 .i64 _ _ (by omega) (by omega) (by rw [hz2]; omega) (by omega)]
  rw [hz1, Int.toNat_natCast, Nat.mul_one, show (Value.int IntKind.u32 0).cells = #[.int .u32 0] from rfl, ← long_list]
  rfl

set_option maxHeartbeats 400000 in
theorem digit_any (w : World) (b n cap j : Nat) (l : List Nat) (hl : l.length = n) (hr : Row w b 38 (l.map nv) cap) :
    Calls Tryd.prog 28 #[.slice (some ⟨b, 0, none⟩) n cap, .int .i64 j] w fun e w' => e = .returned (nv (l.getD j 0)) ∧ w = w' := by
  by_cases h : j < n
  · have h' : (j : Int) < n := by omega
    have p0 := hr.cell j (v := nv (l.getD j 0)) (by rw [List.getElem?_map, List.getD_eq_getElem?_getD, List.getElem?_eq_getElem (by omega)]; rfl)
    clear hr
    generalize l.getD j 0 = d at *
    go_enter Tryd.func28, Tryd.ntmps28
    go_wp2
    go_ret
    exact ⟨rfl, rfl⟩
  · have h' : ¬ (j : Int) < n := by omega
    have e0 : l.getD j 0 = 0 := by rw [List.getD_eq_getElem?_getD, List.getElem?_eq_none (by omega)]; rfl
    rw [e0]
    clear hr e0
    go_enter Tryd.func28, Tryd.ntmps28
    go_wp2
    go_ret
    exact ⟨rfl, rfl⟩

theorem digs_getD (n x j : Nat) (hx : x < 65536 ^ n) : (digs n x).getD j 0 = dig x j := by
  rw [List.getD_eq_getElem?_getD]
  by_cases h : j < n
  · rw [digs_get n x j h]; rfl
  · rw [List.getElem?_eq_none (by rw [digs_length]; omega), dig_high x n j hx (by omega)]; rfl

set_option maxHeartbeats 2000000 in
theorem above_any (w : World) (b c n m cb cc x y : Nat) (hn : n ≤ 1000) (hm : m ≤ 1000) (hx : x < 65536 ^ n) (hy : y < 65536 ^ m) (hb : Row w b 38 ((digs n x).map nv) cb) (hc : Row w c 38 ((digs m y).map nv) cc) :
    Calls Tryd.prog 25 #[.slice (some ⟨b, 0, none⟩) n cb, .slice (some ⟨c, 0, none⟩) m cc] w fun e w' => e = .returned (.bool (decide (y < x))) ∧ w = w' := by
  have DX := Lib.hid (show ∀ j : Nat, Calls Tryd.prog 28 #[.slice (some ⟨b, 0, none⟩) n cb, .int .i64 j] w fun e w' => e = .returned (nv (dig x j)) ∧ w = w' from fun j => by
    rw [← digs_getD n x j hx]; exact digit_any w b n cb j _ (digs_length _ _) hb)
  have DY := Lib.hid (show ∀ j : Nat, Calls Tryd.prog 28 #[.slice (some ⟨c, 0, none⟩) m cc, .int .i64 j] w fun e w' => e = .returned (nv (dig y j)) ∧ w = w' from fun j => by
    rw [← digs_getD m y j hy]; exact digit_any w c m cc j _ (digs_length _ _) hc)
  have h0x : x / 65536 ^ (n + m + 1) = 0 := Nat.div_eq_of_lt (Nat.lt_of_lt_of_le hx (Nat.pow_le_pow_right (by decide) (by omega)))
  have h0y : y / 65536 ^ (n + m + 1) = 0 := Nat.div_eq_of_lt (Nat.lt_of_lt_of_le hy (Nat.pow_le_pow_right (by decide) (by omega)))
  have H0 := Lib.hid (h0x.trans h0y.symm)
  clear hx hy hb hc h0x h0y
  go_enter Tryd.func25, Tryd.ntmps25
  go_wp2
  go_loop [6] (fun i => ∃ k : Nat, k ≤ n + m + 1 ∧ i = .int .i64 ((k : Int) - 1) ∧ Hid (x / 65536 ^ k = y / 65536 ^ k)) (fun i => (intOf i + 1).toNat)
  case atStart => exact ⟨n + m + 1, Nat.le_refl _, by go_num, H0⟩
  case round =>
    obtain ⟨k, hk, rfl, he⟩ := hrel
    clear H0
    cases k with
    | zero =>
      have E0 : decide (y < x) = false := by
        apply decide_eq_false
        have := he.out
        simp only [Nat.pow_zero, Nat.div_one] at this
        omega
      have E0 := Lib.hid E0
      clear he
      go_wp2
      go_ret
      first | exact ⟨rfl, rfl⟩ | (rw [E0.out]; exact ⟨rfl, rfl⟩)
    | succ k =>
      have ek : ((k + 1 : Nat) : Int) - 1 = (k : Int) := by omega
      rw [ek]
      have ⟨h1, h2⟩ := dig_above x y k he.out
      have LX := dig_lt x k
      have LY := dig_lt y k
      by_cases hd : dig x k = dig y k
      · have HE := Lib.hid (h1 hd)
        have DX := Lib.hid (hd ▸ DX.out k)
        have DY := Lib.hid (DY.out k)
        clear h1 h2 hd he LX
        generalize dig y k = d at *
        go_wp2_with fail
        refine DX.out.mono ?_
        rintro e w' ⟨rfl, rfl⟩
        go_wp2_with fail
        refine DY.out.mono ?_
        rintro e w' ⟨rfl, rfl⟩
        go_wp2
        go_round
        case rel => exact ⟨k, by omega, by go_num, HE⟩
        case measure => simp [intOf]
      · have HR : decide (y < x) = decide (dig y k < dig x k) := by
          rcases Nat.lt_or_ge (dig y k) (dig x k) with h | h
          · rw [decide_eq_true (lt_of_div x y k (h2.1 h)), decide_eq_true (by omega)]
          · have h3 := dig_above y x k he.out.symm
            rw [decide_eq_false (not_lt_of_div x y k (h3.2.1 (by omega))), decide_eq_false (by omega)]
        have HR := Lib.hid HR
        have hdi : ¬ (dig x k : Int) = (dig y k : Int) := by omega
        have hbe : ((dig x k : Int) == (dig y k : Int)) = false := by rw [beq_eq_false_iff_ne]; exact hdi
        clear h1 h2 hd he
        have DX := Lib.hid (DX.out k)
        have DY := Lib.hid (DY.out k)
        generalize dig x k = d at *
        generalize dig y k = d' at *
        go_wp2_with fail
        refine DX.out.mono ?_
        rintro e w' ⟨rfl, rfl⟩
        go_wp2_with fail
        refine DY.out.mono ?_
        rintro e w' ⟨rfl, rfl⟩
        go_wp2_with fail
        refine DX.out.mono ?_
        rintro e w' ⟨rfl, rfl⟩
        go_wp2_with fail
        refine DY.out.mono ?_
        rintro e w' ⟨rfl, rfl⟩
        go_wp2
        go_ret
        first | exact ⟨rfl, rfl⟩ | (rw [HR.out]; exact ⟨rfl, rfl⟩)
end Go.Proofs.YtlnmbfddhdjioaaDoor
