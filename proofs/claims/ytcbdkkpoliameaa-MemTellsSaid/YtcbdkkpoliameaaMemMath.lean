/-
  Memories: what is told of bytes that were put (mathematics); pairs of numbers that came in.
-/
import Derived.Test.YtcbdkkpoliameaaMemF
namespace Go.Proofs.Ytcbdkkpoliameaa
open Go.RowKit Go.Deep Go.ChangeShapes Go.WideShapes
set_option linter.unusedVariables false

theorem putAt_get (l : List UInt8) (k : Nat) (bs : List UInt8) (h : k + bs.length ≤ l.length) (i : Nat) : (putAt l k bs)[i]? = if k ≤ i ∧ i < k + bs.length then bs[i - k]? else l[i]? := by
  unfold putAt
  simp only [List.getElem?_append, List.length_take, List.getElem?_take, List.getElem?_drop]
  rw [Nat.min_eq_left (by omega : k ≤ l.length)]
  by_cases h1 : i < k
  · rw [if_pos h1, if_pos h1, if_neg (by omega)]
  · rw [if_neg h1]
    by_cases h2 : i - k < bs.length
    · rw [if_pos h2, if_pos (by omega)]
    · rw [if_neg h2, if_neg (by omega)]; congr 1; omega

theorem putAt_mid (l : List UInt8) (k : Nat) (bs : List UInt8) (h : k + bs.length ≤ l.length) : ((putAt l k bs).drop k).take bs.length = bs := by
  unfold putAt
  have : (l.take k).length = k := by simp; omega
  rw [List.drop_append_of_le_length (by omega), List.drop_of_length_le (by omega), List.nil_append, List.take_append_of_le_length (by omega), List.take_of_length_le (by omega)]

theorem wordN_four (x : Nat) (h : x < 4294967296) : wordN (fourL x) = x := by
  unfold wordN fourL
  simp
  omega

section
variable {win ram : List UInt8}

theorem not_both {A n : Nat} (hw : win.length ≤ 65536) (h : inAt 1048576 ram A n) : ¬ inAt 4096 win A n := by
  unfold inAt at *; omega

theorem gL_ram {A n : Nat} (hw : win.length ≤ 65536) (h : inAt 1048576 ram A n) : gL win ram A n = (ram.drop (A - 1048576)).take n := by
  unfold gL; rw [if_neg (not_both hw h), if_pos h]

theorem tT_ram {A n : Nat} (h : inAt 1048576 ram A n) : tT win ram A n = 0 := by unfold tT; rw [if_pos (.inr h)]

theorem byteX_ram (hw : win.length ≤ 65536) (i : Nat) (hi : i < ram.length) : byteX win ram (1048576 + i) = ram.getD i 0 := by
  unfold byteX
  rw [gL_ram hw (by unfold inAt; omega), Nat.add_sub_cancel_left, List.getD_eq_getElem?_getD, List.getElem?_take, if_pos (by decide), List.getElem?_drop, List.getD_eq_getElem?_getD, Nat.add_zero]

theorem storeT_or (A x : Nat) : (A % 4 = 0 ∧ inAt 1048576 ram A 4 ∧ storeT win ram A = 0 ∧ storeL ram A x = putAt ram (A - 1048576) (fourL x)) ∨ (storeT win ram A ≠ 0 ∧ storeL ram A x = ram) := by
  unfold storeT storeL
  by_cases ha : A % 4 = 0
  · rw [if_pos ha, if_pos ha]
    by_cases hi : inAt 1048576 ram A 4
    · exact .inl ⟨ha, hi, by unfold pT; rw [if_pos hi], by show (if inAt 1048576 ram A 4 then _ else _) = _; rw [if_pos hi]⟩
    · refine .inr ⟨?_, by show (if inAt 1048576 ram A 4 then _ else _) = _; rw [if_neg hi]⟩
      unfold pT
      rw [if_neg hi]
      split
      · rw [if_neg (by decide)]; decide
      · decide
  · rw [if_neg ha, if_neg ha]
    exact .inr ⟨by decide, rfl⟩

theorem storeL_length (A x : Nat) : (storeL ram A x).length = ram.length := by
  rcases storeT_or (win := []) (ram := ram) A x with ⟨_, hi, _, h⟩ | ⟨_, h⟩
  · rw [h]; unfold inAt at hi; exact putAt_length _ _ _ (by show _ + 4 ≤ _; omega)
  · rw [h]

theorem load_put {A x : Nat} (hw : win.length ≤ 65536) (ha : A % 4 = 0) (hi : inAt 1048576 ram A 4) (hx : x < 4294967296) :
    loadX win (putAt ram (A - 1048576) (fourL x)) A = x ∧ loadT win (putAt ram (A - 1048576) (fourL x)) A = 0 := by
  have hl : (putAt ram (A - 1048576) (fourL x)).length = ram.length := putAt_length _ _ _ (by unfold inAt at hi; show _ + 4 ≤ _; omega)
  have hi' : inAt 1048576 (putAt ram (A - 1048576) (fourL x)) A 4 := by unfold inAt at *; rw [hl]; exact hi
  unfold loadX loadT
  rw [if_pos ha, if_pos ha, gL_ram hw hi', tT_ram hi']
  refine ⟨?_, rfl⟩
  have := putAt_mid ram (A - 1048576) (fourL x) (by unfold inAt at hi; show _ + 4 ≤ _; omega)
  rw [show (fourL x).length = 4 from rfl] at this
  rw [this, wordN_four x hx]
end

/-- What a Store leaves, in letters. -/
theorem store_split (win ram : List UInt8) (A x n : Nat) (hn : ram.length = n) (hw : win.length ≤ 65536) (x1 : x < 4294967296) :
    (∃ (k : Nat) (R : List UInt8), storeT win ram A = 0 ∧ storeL ram A x = R ∧ R.length = n ∧ (A : Int) - 1048576 = (k : Int) ∧ k + 4 ≤ n ∧ (A : Int) % 4 = 0 ∧ ¬ (A : Int) < 1048576 ∧
      (∀ i, R[i]? = if k ≤ i ∧ i < k + 4 then (fourL x)[i - k]? else ram[i]?) ∧ loadX win R A = x ∧ loadT win R A = 0) ∨ (storeT win ram A ≠ 0 ∧ storeL ram A x = ram) := by
  rcases storeT_or (win := win) (ram := ram) A x with ⟨ha, hin, hst, hsl⟩ | h
  · have hi := hin
    unfold inAt at hi
    have h4 : A - 1048576 + (fourL x).length ≤ ram.length := by show _ + 4 ≤ _; omega
    obtain ⟨h1, h2⟩ := load_put hw ha hin x1
    refine .inl ⟨A - 1048576, _, hst, hsl, ?_, by omega, by omega, by omega, by omega, fun i => ?_, h1, h2⟩
    · rw [putAt_length _ _ _ h4, hn]
    · exact putAt_get ram (A - 1048576) (fourL x) h4 i
  · exact .inr h

/-! ### pairs of numbers that came in -/
def Pairs (w : World) (v : Value) (n : Nat) : Prop :=
  (v = .slice none 0 0 ∧ n = 0) ∨ ∃ (a : Addr) (cap : Nat), v = .slice (some a) n cap ∧ n ≤ cap ∧ cap ≤ maxLen ∧
    (0 < n → ∃ b off, a = ⟨b, off, none⟩ ∧ ∀ i, i < n → ∃ y z : Nat, y < 4294967296 ∧ z < 4294967296 ∧ w.cell? ⟨b, off + i * 2, none⟩ = some (.int .u32 y) ∧ w.cell? ⟨b, off + i * 2 + 1, none⟩ = some (.int .u32 z))

theorem Pairs.shape {w : World} {n : Nat} {v : Value} (h : Pairs w v n) : ∃ ao cap, v = .slice ao n cap ∧ n ≤ cap ∧ n ≤ maxLen ∧
    (0 < n → ∃ b off, ao = some ⟨b, off, none⟩ ∧ ∀ i, i < n → ∃ y z : Nat, y < 4294967296 ∧ z < 4294967296 ∧ w.cell? ⟨b, off + i * 2, none⟩ = some (.int .u32 y) ∧ w.cell? ⟨b, off + i * 2 + 1, none⟩ = some (.int .u32 z)) := by
  rcases h with ⟨rfl, rfl⟩ | ⟨a, cap, rfl, h1, h2, h3⟩
  · exact ⟨none, 0, rfl, Nat.le_refl _, by decide, fun h => absurd h (by decide)⟩
  · refine ⟨some a, cap, rfl, h1, by omega, fun h0 => ?_⟩
    obtain ⟨b, off, rfl, h4⟩ := h3 h0
    exact ⟨b, off, rfl, h4⟩

section
variable {H : Type} {enc : TypeId × Value → H} {W : World} {b0 : Nat} {spare : Nat → Bool} {held : Bool}
theorem cellsU : Try.prog.cellsOf 32 = 1 := by kernel_rfl
theorem cellsPair : Try.prog.cellsOf 50 = 2 := by kernel_rfl

theorem pairs_read {fuel : Nat} {v : Value} {x : DataW H × List MemPlace} (h : DataW.trod enc Try.prog W b0 spare held fuel 49 [v] = some x) : ∃ n, Pairs W v n := by
  rcases open_slice Try.underlying49 h with ⟨hcs, _⟩ | ⟨a, len, cap, m, n, D, Pl, hcs, _, hl, hm, hmm, _, hi⟩
  · exact ⟨0, .inl ⟨by simpa using hcs, rfl⟩⟩
  · obtain rfl : v = .slice (some a) len cap := by simpa using hcs
    have key : ∀ i, i < len → ∃ y z : Nat, y < 4294967296 ∧ z < 4294967296 ∧ W.cell? (a.add (i * 2)) = some (.int .u32 y) ∧ W.cell? (a.add (i * 2 + 1)) = some (.int .u32 z) := by
      intro i hlt
      have him : i < m := by rw [hmm]; split <;> omega
      obtain ⟨cells, hc, htr⟩ := hi i him
      rw [cellsPair] at hc
      obtain ⟨xs, k, _, _, _, hxl, hes⟩ := DataW.trod_array Try.underlying50 htr
      obtain ⟨_, hcl, hat⟩ := World.cells?_some hc
      match cells, hcl with
      | [u, t], _ =>
        have e0 := hes 0 (by decide)
        have e1 := hes 1 (by decide)
        rw [cellsU] at e0 e1
        match xs, hxl with
        | [x0, x1], _ =>
          obtain ⟨y, hy, _, wy⟩ := DataW.trod_int Try.underlying32 (show DataW.trod enc Try.prog W b0 spare held k 32 [u] = some x0 from e0)
          obtain ⟨z, hz, _, wz⟩ := DataW.trod_int Try.underlying32 (show DataW.trod enc Try.prog W b0 spare held k 32 [t] = some x1 from e1)
          simp at hy hz
          subst hy hz
          have by' := bounds_u32 wy
          have bz := bounds_u32 wz
          obtain ⟨y, rfl⟩ := Int.eq_ofNat_of_zero_le by'.1
          obtain ⟨z, rfl⟩ := Int.eq_ofNat_of_zero_le bz.1
          have c0 := hat 0 (by decide)
          have c1 := hat 1 (by decide)
          rw [Deep.add_add] at c0 c1
          exact ⟨y, z, by omega, by omega, c0, c1⟩
    refine ⟨len, .inr ⟨a, cap, rfl, hl, hm, fun h0 => ?_⟩⟩
    obtain ⟨b, off, spot⟩ := a
    have hs : spot = none := by
      obtain ⟨y, z, _, _, c0, _⟩ := key 0 h0
      cases spot with
      | none => rfl
      | some x =>
        exfalso
        simp only [Addr.add, Nat.zero_mul, if_true] at c0
        unfold World.cell? at c0
        split at c0
        · simp at c0
        · cases c0
    subst hs
    refine ⟨b, off, rfl, fun i hi => ?_⟩
    obtain ⟨y, z, hy, hz, c0, c1⟩ := key i hi
    rw [Addr.add_off] at c0 c1
    exact ⟨y, z, hy, hz, c0, by rw [Nat.add_assoc]; exact c1⟩
end

theorem infoPair : (Try.prog.info? 50).map (fun i => i.size) = some 2 := by kernel_rfl
theorem elemPairs : Try.prog.elem 49 = 50 := by kernel_rfl
theorem sizePair (w : World) : (sizeOf 50).run Try.prog w = .ok 2 w := by kernel_rfl
theorem run_cutP (w : World) (a : Option Addr) (len cap hi : Nat) (h : hi ≤ cap) : (Instr.sliceAt 49 (.slice a len cap) none (some (.int .i64 hi)) none).run Try.prog w = .ok (.slice a hi cap) w := by
  have hu : Try.prog.underlying 49 = some (.slice (Try.prog.elem 49)) := by rw [elemPairs]; exact Try.underlying49
  rw [run_sliceAt_slice _ _ _ _ _ _ hu, run_slice_h _ _ _ _ _ hu _ _ (by omega) (by omega), elemPairs, sizePair]
  show Result.ok (sliced a 0 hi cap 2) w = _
  unfold sliced
  congr 2
  · split
    · rfl
    · cases a <;> simp [Addr.add]
end Go.Proofs.Ytcbdkkpoliameaa
