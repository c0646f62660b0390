/-
  Puts that came in, as the laws' walks take them.
-/
import Derived.Test.YtpcgckppdnlccaaPutB
namespace Go.Proofs.Ytpcgckppdnlccaa
open Go.RowKit Go.Deep Go.ChangeShapes Go.WideShapes

section
variable {H : Type} {enc : TypeId × Value → H} {W : World} {b0 : Nat} {spare : Nat → Bool} {held : Bool}

theorem word_read {fuel : Nat} {u : Value} {y : DataW H × List MemPlace} (h : DataW.trod enc Try.prog W b0 spare held fuel 47 [u] = some y) : ∃ q : Nat, q < 65536 ∧ u = .int .u16 q := by
  obtain ⟨n, hn, _, hwf⟩ := DataW.trod_int Try.underlying47 h
  have hb := bounds_u16 hwf
  simp at hn
  exact ⟨n.toNat, by omega, by rw [hn]; congr 1; omega⟩

theorem puts_read {fuel : Nat} {v : Value} {x : DataW H × List MemPlace} (h : DataW.trod enc Try.prog W b0 spare held fuel 46 [v] = some x) : ∃ ps, PutsAt W W.heap.size v ps := by
  rcases structs_read Try.underlying46 Try.underlying49 (by kernel_rfl) (by kernel_rfl) h with rfl | ⟨a, len, cap, rfl, hl, hm, hf⟩
  · exact ⟨[], .inl ⟨rfl, rfl⟩⟩
  · have each : ∀ i, i < len → ∃ p : PutD, p.ok W W.heap.size ∧ a.block < W.heap.size ∧ W.cell? (a.add (i * 2)) = some (.int .u16 p.word) ∧ W.cell? (a.add (i * 2 + 1)) = some p.v := by
      intro i hi
      obtain ⟨u0, y0, n0, c0, t0⟩ := hf i hi 0 _ rfl
      obtain ⟨u1, y1, n1, c1, t1⟩ := hf i hi 1 _ rfl
      obtain ⟨q, hq, rfl⟩ := word_read t0
      obtain ⟨l, M, hr, hll, hM⟩ := bytes_read t1
      have hb := World.block_lt_of_cell? W _ c1
      rw [Addr.add_block] at hb
      exact ⟨⟨q, u1, l, M⟩, ⟨hq, hll, hr, hM⟩, hb, c0, c1⟩
    have list : ∀ k, k ≤ len → ∃ ps : List PutD, ps.length = k ∧ ∀ i p, ps[i]? = some p → p.ok W W.heap.size ∧ a.block < W.heap.size ∧ W.cell? (a.add (i * 2)) = some (.int .u16 p.word) ∧ W.cell? (a.add (i * 2 + 1)) = some p.v := by
      intro k
      induction k with
      | zero => intro _; exact ⟨[], rfl, fun i p hp => by simp at hp⟩
      | succ k ih =>
        intro hk
        obtain ⟨ps, hps, hall⟩ := ih (by omega)
        obtain ⟨p, hp⟩ := each k (by omega)
        refine ⟨ps ++ [p], by simp [hps], fun i x hx => ?_⟩
        by_cases hi : i < ps.length
        · rw [List.getElem?_append_left hi] at hx; exact hall i x hx
        · have hil : i = ps.length := by
            have := (List.getElem?_eq_some_iff.1 hx).1
            simp at this; omega
          subst hil
          simp at hx
          subst hx
          rw [hps]; exact hp
    obtain ⟨ps, hps, hall⟩ := list len (Nat.le_refl _)
    exact ⟨ps, .inr ⟨a, cap, by rw [hps], by omega, hm, hall⟩⟩
end
end Go.Proofs.Ytpcgckppdnlccaa
