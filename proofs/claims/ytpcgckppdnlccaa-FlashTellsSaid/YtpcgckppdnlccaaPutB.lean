/-
  Puts that came in, for a loop over the first ones of them; lemmas on flashes for the laws.
-/
import Derived.Test.YtpcgckppdnlccaaPut
import Derived.Test.YtpcgckppdnlccaaCopy
namespace Go.Proofs.Ytpcgckppdnlccaa
open Go.RowKit Go.Deep

theorem slice_puts_nil (x : Int) (hx : x = 0) (w : World) :
    (Instr.slice 46 (.slice none 0 0) none (some (.int .i64 x)) none).run Try.prog w = .ok (.slice none 0 0) w := by
  subst hx
  rw [run_slice_h w 46 _ 0 0 Try.underlying46 .i64 0 (by omega) (by omega)]
  show ((sizeOf 49).run Try.prog w).andThen _ = _
  rw [sizePut]
  rfl

theorem PutsAt.open {w : World} {base : Nat} {v : Value} {ps : List PutD} (h : PutsAt w base v ps) (L : Nat) (L' : Int) (hL : L' = L) : ∃ ao n cap m, v = .slice ao n cap ∧ n ≤ 9223372036854775807 ∧ ps.length = n ∧ m = min n L ∧
    (((n : Int) ≤ L' ∧ m = n ∧ ∀ w, (Instr.slice 46 (.slice ao n cap) none (some (.int .i64 n)) none).run Try.prog w = .ok (.slice ao n cap) w) ∨
      (L' < n ∧ m = L ∧ ∀ w, (Instr.slice 46 (.slice ao n cap) none (some (.int .i64 L')) none).run Try.prog w = .ok (.slice ao L cap) w)) ∧
    (∀ i p, ps[i]? = some p → ∃ b off, ao = some ⟨b, off, none⟩ ∧ b < base ∧ p.ok w base ∧ w.cell? ⟨b, off + i * 2, none⟩ = some (.int .u16 p.word) ∧ w.cell? ⟨b, off + i * 2 + 1, none⟩ = some p.v) := by
  rcases h with ⟨rfl, rfl⟩ | ⟨ad, cap, rfl, hcap, hm, hp⟩
  · exact ⟨none, 0, 0, 0, rfl, by omega, rfl, by simp, .inl ⟨by omega, rfl, fun w => slice_puts_nil _ rfl w⟩, fun i p hi => by simp at hi⟩
  · unfold maxLen at hm
    refine ⟨some ad, ps.length, cap, min ps.length L, rfl, by omega, rfl, rfl, ?_, fun i p hi => ?_⟩
    · by_cases hle : (ps.length : Int) ≤ L'
      · exact .inl ⟨hle, by omega, fun w => slice_puts ad ps.length cap _ _ rfl (by omega) w⟩
      · exact .inr ⟨by omega, by omega, fun w => slice_puts ad ps.length cap _ _ hL (by omega) w⟩
    obtain ⟨ok, hb, c0, c1⟩ := hp i p hi
    obtain ⟨b, off, spot⟩ := ad
    have hs : spot = none := by
      have h0 : 0 < ps.length := by have := (List.getElem?_eq_some_iff.1 hi).1; omega
      obtain ⟨_, _, d0, _⟩ := hp 0 ps[0] (List.getElem?_eq_getElem h0)
      cases spot with
      | none => rfl
      | some x =>
        exfalso
        simp only [Addr.add, Nat.zero_mul, if_true] at d0
        unfold World.cell? at d0
        split at d0
        · simp at d0
        · cases d0
    subst hs
    rw [Addr.add_off] at c0 c1
    exact ⟨b, off, rfl, hb, ok, c0, by rw [Nat.add_assoc]; exact c1⟩

theorem FlashAt.keepsNil {S : List Nat} {w w' : World} {F B W M : Nat} {s : FS} (h : FlashAt w F B W M s) (hm : s.mask = []) (hk : Keeps S w w') (hF : F ∉ S) (hB : B ∉ S) (hW : W ∉ S) : FlashAt w' F B W M s := by
  obtain ⟨cb, cw, mv, f, b, c, m⟩ := h.here
  refine { h with here := ⟨cb, cw, mv, hk.obj f hF, b.keeps hk hB, c.keeps hk hW, ?_⟩ }
  rw [hm] at m ⊢
  rcases m with q | ⟨ad, cap, hv, hc, _, hr⟩
  · exact .inl q
  · exact .inr ⟨ad, cap, hv, hc, fun h => absurd rfl h, fun i c hi => by simp at hi⟩

theorem FlashAt.maskLt {w : World} {F B W M : Nat} {s : FS} (h : FlashAt w F B W M s) (hm : s.mask ≠ []) : M < w.heap.size := by
  obtain ⟨cb, cw, mv, _, _, _, rM⟩ := h.here
  obtain ⟨off, cap, _, _, hc⟩ := rM.at hm
  have h0 : 0 < s.mask.length := List.length_pos_iff.2 hm
  exact World.block_lt_of_cell? w _ (hc 0 s.mask[0] (List.getElem?_eq_getElem h0))

theorem FS.let_wear (s : FS) (a n : Nat) (g : UInt8 → Nat → UInt8 → UInt8) : (s.let a n g).1.wear = s.wear := by
  unfold FS.let; split <;> rfl
theorem FS.program_wear (s : FS) (a : Int) (b : List UInt8) : (s.program a b).1.wear = s.wear := by
  unfold FS.program; split
  · rfl
  · exact FS.let_wear _ _ _ _
theorem wear_small {l : List Int} (h : l = [0, 0, 0, 0, 0, 0, 0, 0]) : ∀ x ∈ l, 0 ≤ x ∧ x < 9223372036854775807 := by subst h; decide
end Go.Proofs.Ytpcgckppdnlccaa
