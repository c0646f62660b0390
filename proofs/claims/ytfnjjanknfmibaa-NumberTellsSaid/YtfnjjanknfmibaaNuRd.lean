/-
  Numbers as texts: digits with signs and points as they are read.
-/
import Derived.Test.YtfnjjanknfmibaaNuMath
namespace Go.Proofs.Ytfnjjanknfmibaa

def DigL (L : List UInt8) : Prop := ∀ c ∈ L, c.toNat ≠ 35 ∧ c.toNat ≠ 36 ∧ c.toNat ≠ 37 ∧ c.toNat ≠ 39 ∧ c.toNat ≠ 45 ∧ c.toNat ≠ 46
theorem quo_head {a : UInt8} (r : List UInt8) (h : a.toNat ≠ 39) : quoN (a :: r) = none := by
  match r with
  | [] => rfl
  | [_] => rfl
  | [c, z] => exact if_neg (fun hh => h hh.1)
  | _ :: _ :: _ :: _ => rfl
theorem uns_head {f : Bool} {b : Nat} {m : Bool} {c : UInt8} (u : List UInt8) (h : c.toNat ≠ 35 ∧ c.toNat ≠ 36 ∧ c.toNat ≠ 37 ∧ c.toNat ≠ 45) : unsG f b m (c :: u) = (c :: u, b, m) := by
  unfold unsG
  rw [if_neg (fun hh => h.1 hh.2), if_neg (fun hh => h.2.1 hh.2), if_neg (fun hh => h.2.2.1 hh.2), if_neg (fun hh => h.2.2.2 hh.1)]
theorem uns_dig {f : Bool} {b : Nat} {m : Bool} (L t : List UInt8) (hL : DigL L) (h : L ≠ [] ∨ t = []) : unsG f b m (L ++ t) = (L ++ t, b, m) := by
  cases L with
  | nil =>
    rcases h with h | rfl
    · exact absurd rfl h
    · rfl
  | cons c u =>
    have hc := hL c (List.mem_cons_self ..)
    exact uns_head (u ++ t) ⟨hc.1, hc.2.1, hc.2.2.1, hc.2.2.2.2.1⟩
theorem uns_minus {f : Bool} {b : Nat} (L t : List UInt8) (hL : DigL L) (h : L ≠ [] ∨ t = []) : unsG f b false (45 :: (L ++ t)) = (L ++ t, b, true) := by
  have e := uns_dig (f := false) (b := b) (m := true) L t hL h
  unfold unsG
  rw [if_neg (fun hh => absurd hh.2 (by decide)), if_neg (fun hh => absurd hh.2 (by decide)), if_neg (fun hh => absurd hh.2 (by decide)), if_pos ⟨by decide, rfl⟩]
  exact e
/-- The base of a sign. -/
def markB (c : UInt8) : Nat := if c.toNat = 35 then 10 else if c.toNat = 36 then 16 else 2
theorem uns_mark {b : Nat} {c : UInt8} (u : List UInt8) (h : c.toNat = 35 ∨ c.toNat = 36 ∨ c.toNat = 37) : unsG true b false (c :: u) = unsG false (markB c) false u := by
  rcases h with h | h | h
  · show (if true = true ∧ c.toNat = 35 then _ else _) = _
    rw [if_pos ⟨rfl, h⟩]
    unfold markB
    rw [if_pos h]
  · show (if true = true ∧ c.toNat = 35 then _ else _) = _
    rw [if_neg (fun hh => by omega), if_pos ⟨rfl, h⟩]
    unfold markB
    rw [if_neg (by omega), if_pos h]
  · show (if true = true ∧ c.toNat = 35 then _ else _) = _
    rw [if_neg (fun hh => by omega), if_neg (fun hh => by omega), if_pos ⟨rfl, h⟩]
    unfold markB
    rw [if_neg (by omega), if_neg (by omega)]
theorem cut_dot (L : List UInt8) : cutP (L ++ [46]) = (L, true) := by
  unfold cutP
  rw [if_pos (by simp), List.dropLast_concat]
theorem cut_no (L : List UInt8) (hL : DigL L) : cutP L = (L, false) := by
  unfold cutP
  rw [if_neg]
  intro h
  have := hL 46 (List.mem_of_getLast? h)
  exact this.2.2.2.2.2 rfl
theorem read_dot (b : Nat) (mi : Bool) (L : List UInt8) (hL : DigL L) (h : L ≠ []) : readN ((if mi then [45] else []) ++ (L ++ [46])) b = readV true mi (valN b L) := by
  have e : unsG true b false ((if mi then [45] else []) ++ (L ++ [46])) = (L ++ [46], b, mi) := by
    cases mi
    · exact uns_dig L [46] hL (.inl h)
    · exact uns_minus L [46] hL (.inl h)
  have q : quoN ((if mi then [45] else []) ++ (L ++ [46])) = none := by
    cases mi
    · cases L with
      | nil => exact absurd rfl h
      | cons c u => exact quo_head _ (hL c (List.mem_cons_self ..)).2.2.2.1
    · exact quo_head _ (by decide)
  unfold readN
  rw [q, e]
  simp only [cut_dot]
theorem read_plain (b : Nat) (mi : Bool) (L : List UInt8) (hL : DigL L) : readN ((if mi then [45] else []) ++ L) b = readV false mi (valN b L) := by
  have e : unsG true b false ((if mi then [45] else []) ++ L) = (L, b, mi) := by
    cases mi
    · have := uns_dig (f := true) (b := b) (m := false) L [] hL (.inr rfl)
      rw [List.append_nil] at this
      exact this
    · have := uns_minus (f := true) (b := b) L [] hL (.inr rfl)
      rw [List.append_nil] at this
      exact this
  have q : quoN ((if mi then [45] else []) ++ L) = none := by
    cases mi
    · cases L with
      | nil => rfl
      | cons c u => exact quo_head _ (hL c (List.mem_cons_self ..)).2.2.2.1
    · exact quo_head _ (by decide)
  unfold readN
  rw [q, e]
  simp only [cut_no L hL]
theorem read_mark (b : Nat) (mi : Bool) (c : UInt8) (L : List UInt8) (hL : DigL L) (h : c.toNat = 35 ∨ c.toNat = 36 ∨ c.toNat = 37) : readN (c :: ((if mi then [45] else []) ++ L)) b = readV false mi (valN (markB c) L) := by
  have e : unsG true b false (c :: ((if mi then [45] else []) ++ L)) = (L, markB c, mi) := by
    rw [uns_mark _ h]
    cases mi
    · have := uns_dig (f := false) (b := markB c) (m := false) L [] hL (.inr rfl)
      rw [List.append_nil] at this
      exact this
    · have := uns_minus (f := false) (b := markB c) L [] hL (.inr rfl)
      rw [List.append_nil] at this
      exact this
  have q : quoN (c :: ((if mi then [45] else []) ++ L)) = none := quo_head _ (by omega)
  unfold readN
  rw [q, e]
  simp only [cut_no L hL]
theorem let_digL {b : Nat} (hb : 2 ≤ b ∧ b ≤ 36) (k n : Nat) : DigL (digsF b k n) := by
  intro c hc
  obtain ⟨v, hv, rfl⟩ := digsF_mem b hb k n c hc
  have := let_worth v (by omega)
  exact ⟨this.2.2.2.2.2.1, this.2.2.2.2.2.2.1, this.2.2.2.2.2.2.2, this.2.2.2.2.1, this.2.2.1, this.2.2.2.1⟩
theorem DigL.reverse {L : List UInt8} (h : DigL L) : DigL L.reverse := fun c hc => h c (List.mem_reverse.1 hc)
theorem low_ne (c : UInt8) (h : c.toNat ≠ 35 ∧ c.toNat ≠ 36 ∧ c.toNat ≠ 37 ∧ c.toNat ≠ 39 ∧ c.toNat ≠ 45 ∧ c.toNat ≠ 46) : (lowC c).toNat ≠ 35 ∧ (lowC c).toNat ≠ 36 ∧ (lowC c).toNat ≠ 37 ∧ (lowC c).toNat ≠ 39 ∧ (lowC c).toNat ≠ 45 ∧ (lowC c).toNat ≠ 46 := by
  unfold lowC
  split
  · next hc =>
    have e : (c + 32).toNat = c.toNat + 32 := by rw [UInt8.toNat_add]; simp; omega
    rw [e]
    omega
  · exact h
theorem DigL.low {L : List UInt8} (h : DigL L) : DigL (L.map lowC) := by
  intro c hc
  obtain ⟨d, hd, rfl⟩ := List.mem_map.1 hc
  exact low_ne d (h d hd)
theorem neg_neg (n : Nat) (h : n < 18446744073709551616) : negN (negN n) = n := by
  by_cases h0 : n = 0
  · subst h0; decide
  · have e : negN n = 18446744073709551616 - n := Nat.mod_eq_of_lt (by omega)
    rw [e]
    have e2 : negN (18446744073709551616 - n) = 18446744073709551616 - (18446744073709551616 - n) := Nat.mod_eq_of_lt (by omega)
    rw [e2]
    omega
/-- A single byte, in a base that is none, is no number. -/
theorem read_byte (b : Nat) (hb : ¬ (2 ≤ b ∧ b ≤ 36)) (c : UInt8) : readN [c] b = ⟨0, 0, false, false⟩ := by
  have q : quoN [c] = none := rfl
  have hd : digN b c.toNat = none := by
    unfold digN
    cases worthN c.toNat with
    | none => rfl
    | some v => exact if_neg (fun h => hb ⟨h.1, h.2.1⟩)
  have z : ∀ d m bb, readV d m (valN bb []) = ⟨0, 0, false, false⟩ := fun d m bb => rfl
  have one : valN b [c] = none := by
    unfold valN
    rw [if_neg (by simp)]
    show moreN b (some 0) c = none
    unfold moreN
    simp only [Option.bind]
    rw [hd]
  unfold readN
  rw [q]
  by_cases h : c.toNat = 35 ∨ c.toNat = 36 ∨ c.toNat = 37
  · rw [uns_mark [] h]
    exact z _ _ _
  · by_cases hm : c.toNat = 45
    · have e : unsG true b false [c] = ([], b, true) := by
        unfold unsG
        rw [if_neg (fun hh => by omega), if_neg (fun hh => by omega), if_neg (fun hh => by omega), if_pos ⟨hm, rfl⟩]
        rfl
      rw [e]
      exact z _ _ _
    · rw [uns_head [] (by omega)]
      by_cases hp : c = 46
      · subst hp
        exact z _ _ _
      · have e : cutP [c] = ([c], false) := by
          unfold cutP
          rw [if_neg (by simpa using hp)]
        simp only [e, one]
        rfl
end Go.Proofs.Ytfnjjanknfmibaa
