/-
  Words as bytes: names: small and large letters, names that are alike, names that are right (the program's and the document's).
-/
import Derived.Test.YtfnjjanknfmibaaImMath
import Derived.Test.YtfnjjanknfmibaaStkBase
import Derived.Deep.RegionWith
namespace Go.Proofs.Ytfnjjanknfmibaa
open Go.RowKit Go.Deep
set_option linter.unusedVariables false

def str (l : List UInt8) : Value := .string ⟨l.toArray⟩

theorem str_size (l : List UInt8) : (ByteArray.mk l.toArray).size = l.length := by simp [ByteArray.size]

theorem run_str_at (w : World) (l : List UInt8) (k : Nat) (c : UInt8) (h : l[k]? = some c) : (Instr.index 9 (.string ⟨l.toArray⟩) (.int .i64 k)).run Try.prog w = .ok (bv c) w := by
  have hk := (List.getElem?_eq_some_iff.1 h).1
  have hv := (List.getElem?_eq_some_iff.1 h).2
  rw [run_index_string w 9 _ .i64 _ Try.underlying9, dif_pos ⟨by omega, by rw [str_size]; omega⟩]
  have : ((ByteArray.mk l.toArray)[((k : Int)).toNat]'(by rw [str_size]; omega)) = c := by
    rw [← hv]; rfl
  rw [this]; rfl

theorem ret_int1 {k : IntKind} {a b : Int} (h : a = b) : Ending.returned (.int k a) = .returned (.int k b) := by rw [h]

theorem small_any (w : World) (c : UInt8) : Calls Try.prog 63 #[bv c] w fun e w' => e = .returned (bv (smallC c)) ∧ w = w' := by
  unfold bv
  rw [small_nat]
  have hc := c.toNat_lt
  generalize c.toNat = n at *
  by_cases h1 : 65 ≤ n
  · by_cases h2 : n ≤ 90
    · rw [if_pos ⟨h1, h2⟩]
      have h1' : (65 : Int) ≤ (n : Int) := by omega
      have h2' : (n : Int) ≤ 90 := by omega
      go_enter Try.func63, Try.ntmps63
      go_wp2
      go_ret
      exact ⟨ret_int1 (by omega), rfl⟩
    · rw [if_neg (by omega)]
      have h1' : (65 : Int) ≤ (n : Int) := by omega
      have h2' : ¬ (n : Int) ≤ 90 := by omega
      go_enter Try.func63, Try.ntmps63
      go_wp2
      go_ret
      exact ⟨rfl, rfl⟩
  · rw [if_neg (by omega)]
    have h1' : ¬ (65 : Int) ≤ (n : Int) := by omega
    go_enter Try.func63, Try.ntmps63
    go_wp2
    go_ret
    exact ⟨rfl, rfl⟩

theorem large_any (w : World) (c : UInt8) : Calls Try.prog 64 #[bv c] w fun e w' => e = .returned (bv (largeC c)) ∧ w = w' := by
  unfold bv
  rw [large_nat]
  have hc := c.toNat_lt
  generalize c.toNat = n at *
  by_cases h1 : 97 ≤ n
  · by_cases h2 : n ≤ 122
    · rw [if_pos ⟨h1, h2⟩]
      have h1' : (97 : Int) ≤ (n : Int) := by omega
      have h2' : (n : Int) ≤ 122 := by omega
      go_enter Try.func64, Try.ntmps64
      go_wp2
      go_ret
      exact ⟨ret_int1 (by omega), rfl⟩
    · rw [if_neg (by omega)]
      have h1' : (97 : Int) ≤ (n : Int) := by omega
      have h2' : ¬ (n : Int) ≤ 122 := by omega
      go_enter Try.func64, Try.ntmps64
      go_wp2
      go_ret
      exact ⟨rfl, rfl⟩
  · rw [if_neg (by omega)]
    have h1' : ¬ (97 : Int) ≤ (n : Int) := by omega
    go_enter Try.func64, Try.ntmps64
    go_wp2
    go_ret
    exact ⟨rfl, rfl⟩

theorem take_map_succ {α β : Type} (f : α → β) (a : List α) (k : Nat) (c : α) (h : a[k]? = some c) : (a.take (k + 1)).map f = (a.take k).map f ++ [f c] := by
  rw [List.take_add_one, h]; simp

def alikeG (f : UInt8 → UInt8) (a b : List UInt8) : Bool := a.map f == b.map f
theorem alikeG_len (f : UInt8 → UInt8) {a b : List UInt8} (h : a.length ≠ b.length) : alikeG f a b = false := by
  unfold alikeG
  rw [beq_eq_false_iff_ne]
  intro e
  have := congrArg List.length e
  simp at this
  exact h this
theorem alikeG_large (a b : List UInt8) : alikeG largeC a b = alikeB a b := by
  unfold alikeG alikeB
  rw [Bool.eq_iff_iff, beq_iff_eq, beq_iff_eq]
  induction a generalizing b with
  | nil => cases b <;> simp
  | cons x a ih =>
    cases b with
    | nil => simp
    | cons y b =>
      simp only [List.map_cons, List.cons.injEq, ih, small_large]

set_option maxRecDepth 100000 in
set_option maxHeartbeats 1000000 in
theorem Alike_loop (w : World) (a b : List UInt8) (ha : a.length ≤ maxLen) : Calls Try.prog 34 #[str a, str b] w fun e w' => e = .returned (.bool (alikeG smallC a b)) ∧ ∃ n, w' = w.drewN n := by
  unfold str
  have hza := str_size a
  have hzb := str_size b
  have HA := Lib.hid fun (w : World) (k : Nat) (c : UInt8) => run_str_at w a k c
  have HB := Lib.hid fun (w : World) (k : Nat) (c : UInt8) => run_str_at w b k c
  generalize ByteArray.mk a.toArray = s at *
  generalize ByteArray.mk b.toArray = t at *
  unfold maxLen at ha
  by_cases hl : a.length = b.length
  · have hzb' : t.size = a.length := hzb.trans hl.symm
    have HL := Lib.hid hl
    have HM := Lib.hid (show a.map smallC = (a.take a.length).map smallC ∧ b.map smallC = (b.take a.length).map smallC by rw [List.take_length, hl, List.take_length]; exact ⟨rfl, rfl⟩)
    have hn : ∃ n, n = a.length := ⟨_, rfl⟩
    obtain ⟨n, hn⟩ := hn
    rw [← hn] at ha hza hzb' 
    have HN := Lib.hid hn
    clear hzb hl hn
    go_enter Try.func34, Try.ntmps34
    go_wp2
    go_loopw [5, 13] (fun _ i wr => ∃ k : Nat, k ≤ n ∧ i = .int .i64 k ∧ (∃ m, wr = w.drewN m) ∧ (a.take k).map smallC = (b.take k).map smallC) (fun _ i _ => n - (intOf i).toNat)
    case atStart => exact ⟨0, Nat.zero_le _, rfl, ⟨0, rfl⟩, by simp⟩
    case round =>
      obtain ⟨k, hk, rfl, ⟨m, rfl⟩, he⟩ := hrel
      have HE := Lib.hid he
      clear he
      by_cases hlt : k < n
      · have hca : ∃ c, a[k]? = some c := ⟨_, List.getElem?_eq_getElem (by have := HN.out; omega)⟩
        have hcb : ∃ c, b[k]? = some c := ⟨_, List.getElem?_eq_getElem (by have := HN.out; have := HL.out; omega)⟩
        obtain ⟨ca, hca⟩ := hca
        obtain ⟨cb, hcb⟩ := hcb
        have ia := fun w => HA.out w k ca hca
        have ib := fun w => HB.out w k cb hcb
        have H1 := Lib.hid fun w => small_any w ca
        have H2 := Lib.hid fun w => small_any w cb
        have HCA := Lib.hid hca
        have HCB := Lib.hid hcb
        have eC : smallC ca = smallC cb ↔ ((smallC ca).toNat : Int) = ((smallC cb).toNat : Int) := by
          rw [← UInt8.toNat_inj]; omega
        by_cases e : smallC ca = smallC cb
        · have hne : ((((smallC ca).toNat : Int) != ((smallC cb).toNat : Int)) : Bool) = false := by simp [eC.1 e]
          have E := Lib.hid e
          clear hca hcb e eC
          unfold bv at *
          generalize ((smallC ca).toNat : Int) = sa at *
          generalize ((smallC cb).toNat : Int) = sb at *
          generalize (ca.toNat : Int) = x at *
          generalize (cb.toNat : Int) = y at *
          go_wp2_with (go_quiet (first | (go_at_call_of 63 (Value.int .u8 x); first | exact Calls.quiet_of_same (H1.out _) | exact quiet_none (H1.out _)) | (go_at_call_of 63 (Value.int .u8 y); first | exact Calls.quiet_of_same (H2.out _) | exact quiet_none (H2.out _))))
          go_roundw
          case rel => exact ⟨k + 1, by omega, by go_num, ⟨_, rfl⟩, by rw [take_map_succ _ _ _ _ HCA.out, take_map_succ _ _ _ _ HCB.out, HE.out, E.out]⟩
          case measure => simp [intOf]; omega
        · have hne : ((((smallC ca).toNat : Int) != ((smallC cb).toNat : Int)) : Bool) = true := by
            rw [bne_iff_ne]; exact fun h => e (eC.2 h)
          have hr : alikeG smallC a b = false := by
            unfold alikeG
            rw [beq_eq_false_iff_ne]
            intro h
            have h1 := congrArg (fun l => l[k]?) h
            simp only [List.getElem?_map, hca, hcb, Option.map_some] at h1
            injection h1 with h1
            exact e h1
          have HR := Lib.hid hr
          clear hca hcb e eC hr
          unfold bv at *
          generalize ((smallC ca).toNat : Int) = sa at *
          generalize ((smallC cb).toNat : Int) = sb at *
          generalize (ca.toNat : Int) = x at *
          generalize (cb.toNat : Int) = y at *
          go_wp2_with (go_quiet (first | (go_at_call_of 63 (Value.int .u8 x); first | exact Calls.quiet_of_same (H1.out _) | exact quiet_none (H1.out _)) | (go_at_call_of 63 (Value.int .u8 y); first | exact Calls.quiet_of_same (H2.out _) | exact quiet_none (H2.out _))))
          go_ret
          exact ⟨by rw [HR.out]; rfl, _, by first | rfl | exact World.drewN_drewN _ _ _⟩
      · have hkn : k = n := by omega
        subst hkn
        have hr : alikeG smallC a b = true := by
          unfold alikeG
          rw [beq_iff_eq, HM.out.1, HM.out.2, ← HN.out]; exact HE.out
        have HR := Lib.hid hr
        clear hr
        go_wp2
        go_ret
        exact ⟨by rw [HR.out]; rfl, _, by first | rfl | exact World.drewN_drewN _ _ _⟩
  · rw [alikeG_len smallC hl]
    have hne : (((a.length : Int) != (b.length : Int)) : Bool) = true := by rw [bne_iff_ne]; omega
    clear hl
    generalize a.length = n at *
    generalize b.length = m at *
    go_enter Try.func34, Try.ntmps34
    go_wp2
    go_ret
    exact ⟨rfl, 0, rfl⟩

set_option maxRecDepth 100000 in
set_option maxHeartbeats 1000000 in
theorem r10Alike_loop (w : World) (a b : List UInt8) (ha : a.length ≤ maxLen) : Calls Try.prog 35 #[str a, str b] w fun e w' => e = .returned (.bool (alikeG largeC a b)) ∧ ∃ n, w' = w.drewN n := by
  unfold str
  have hza := str_size a
  have hzb := str_size b
  have HA := Lib.hid fun (w : World) (k : Nat) (c : UInt8) => run_str_at w a k c
  have HB := Lib.hid fun (w : World) (k : Nat) (c : UInt8) => run_str_at w b k c
  generalize ByteArray.mk a.toArray = s at *
  generalize ByteArray.mk b.toArray = t at *
  unfold maxLen at ha
  by_cases hl : a.length = b.length
  · have hzb' : t.size = a.length := hzb.trans hl.symm
    have HL := Lib.hid hl
    have HM := Lib.hid (show a.map largeC = (a.take a.length).map largeC ∧ b.map largeC = (b.take a.length).map largeC by rw [List.take_length, hl, List.take_length]; exact ⟨rfl, rfl⟩)
    have hn : ∃ n, n = a.length := ⟨_, rfl⟩
    obtain ⟨n, hn⟩ := hn
    rw [← hn] at ha hza hzb' 
    have HN := Lib.hid hn
    clear hzb hl hn
    go_enter Try.func35, Try.ntmps35
    go_wp2
    go_loopw [5] (fun i wr => ∃ k : Nat, k ≤ n ∧ i = .int .i64 k ∧ (∃ m, wr = w.drewN m) ∧ (a.take k).map largeC = (b.take k).map largeC) (fun i _ => n - (intOf i).toNat)
    case atStart => exact ⟨0, Nat.zero_le _, rfl, ⟨0, rfl⟩, by simp⟩
    case round =>
      obtain ⟨k, hk, rfl, ⟨m, rfl⟩, he⟩ := hrel
      have HE := Lib.hid he
      clear he
      by_cases hlt : k < n
      · have hca : ∃ c, a[k]? = some c := ⟨_, List.getElem?_eq_getElem (by have := HN.out; omega)⟩
        have hcb : ∃ c, b[k]? = some c := ⟨_, List.getElem?_eq_getElem (by have := HN.out; have := HL.out; omega)⟩
        obtain ⟨ca, hca⟩ := hca
        obtain ⟨cb, hcb⟩ := hcb
        have ia := fun w => HA.out w k ca hca
        have ib := fun w => HB.out w k cb hcb
        have H1 := Lib.hid fun w => large_any w ca
        have H2 := Lib.hid fun w => large_any w cb
        have HCA := Lib.hid hca
        have HCB := Lib.hid hcb
        have eC : largeC ca = largeC cb ↔ ((largeC ca).toNat : Int) = ((largeC cb).toNat : Int) := by
          rw [← UInt8.toNat_inj]; omega
        by_cases e : largeC ca = largeC cb
        · have hne : ((((largeC ca).toNat : Int) != ((largeC cb).toNat : Int)) : Bool) = false := by simp [eC.1 e]
          have E := Lib.hid e
          clear hca hcb e eC
          unfold bv at *
          generalize ((largeC ca).toNat : Int) = sa at *
          generalize ((largeC cb).toNat : Int) = sb at *
          generalize (ca.toNat : Int) = x at *
          generalize (cb.toNat : Int) = y at *
          go_wp2_with (go_quiet (first | (go_at_call_of 64 (Value.int .u8 x); first | exact Calls.quiet_of_same (H1.out _) | exact quiet_none (H1.out _)) | (go_at_call_of 64 (Value.int .u8 y); first | exact Calls.quiet_of_same (H2.out _) | exact quiet_none (H2.out _))))
          go_roundw
          case rel => exact ⟨k + 1, by omega, by go_num, ⟨_, rfl⟩, by rw [take_map_succ _ _ _ _ HCA.out, take_map_succ _ _ _ _ HCB.out, HE.out, E.out]⟩
          case measure => simp [intOf]; omega
        · have hne : ((((largeC ca).toNat : Int) != ((largeC cb).toNat : Int)) : Bool) = true := by
            rw [bne_iff_ne]; exact fun h => e (eC.2 h)
          have hr : alikeG largeC a b = false := by
            unfold alikeG
            rw [beq_eq_false_iff_ne]
            intro h
            have h1 := congrArg (fun l => l[k]?) h
            simp only [List.getElem?_map, hca, hcb, Option.map_some] at h1
            injection h1 with h1
            exact e h1
          have HR := Lib.hid hr
          clear hca hcb e eC hr
          unfold bv at *
          generalize ((largeC ca).toNat : Int) = sa at *
          generalize ((largeC cb).toNat : Int) = sb at *
          generalize (ca.toNat : Int) = x at *
          generalize (cb.toNat : Int) = y at *
          go_wp2_with (go_quiet (first | (go_at_call_of 64 (Value.int .u8 x); first | exact Calls.quiet_of_same (H1.out _) | exact quiet_none (H1.out _)) | (go_at_call_of 64 (Value.int .u8 y); first | exact Calls.quiet_of_same (H2.out _) | exact quiet_none (H2.out _))))
          go_ret
          exact ⟨by rw [HR.out]; rfl, _, by first | rfl | exact World.drewN_drewN _ _ _⟩
      · have hkn : k = n := by omega
        subst hkn
        have hr : alikeG largeC a b = true := by
          unfold alikeG
          rw [beq_iff_eq, HM.out.1, HM.out.2, ← HN.out]; exact HE.out
        have HR := Lib.hid hr
        clear hr
        go_wp2
        go_ret
        exact ⟨by rw [HR.out]; rfl, _, by first | rfl | exact World.drewN_drewN _ _ _⟩
  · rw [alikeG_len largeC hl]
    have hne : (((a.length : Int) != (b.length : Int)) : Bool) = true := by rw [bne_iff_ne]; omega
    clear hl
    generalize a.length = n at *
    generalize b.length = m at *
    go_enter Try.func35, Try.ntmps35
    go_wp2
    go_ret
    exact ⟨rfl, 0, rfl⟩

theorem Alike_any (w : World) (a b : List UInt8) (ha : a.length ≤ maxLen) : Calls Try.prog 34 #[str a, str b] w fun e w' => e = .returned (.bool (alikeB a b)) ∧ ∃ n, w' = w.drewN n := Alike_loop w a b ha
theorem r10Alike_any (w : World) (a b : List UInt8) (ha : a.length ≤ maxLen) : Calls Try.prog 35 #[str a, str b] w fun e w' => e = .returned (.bool (alikeB a b)) ∧ ∃ n, w' = w.drewN n := by
  rw [← alikeG_large]; exact r10Alike_loop w a b ha
end Go.Proofs.Ytfnjjanknfmibaa
