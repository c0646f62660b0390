/-
  Bytes appended to a row of one's own: the row stands where it stood, or is new.
-/
import Derived.Test.YtfnjjanknfmibaaGround
import Derived.Deep.RegionWith
import Derived.Laws.AppendOwnNone
namespace Go.Proofs.Ytfnjjanknfmibaa
open Go.RowKit Go.Deep
set_option linter.unusedVariables false

/-- Bytes appended to a row of one's own: the row stands where it stood, or is new. -/
theorem run_append_bb (w : World) (base : Nat) (ty : TypeId) (v : Value) (l : List UInt8) (hown : w.ownsRow base 5 1 v l.length (l.map bv))
    (u : Value) (m : List UInt8) (M : Nat) (hr : Reads w u m M) (hlen : l.length + m.length ≤ 140737488355328) (hbase : base ≤ w.heap.size) :
    ∃ v' w', (Builtin.append_ #[49, 49] ty #[v, u]).run Try.prog w = .ok v' w' ∧ w'.ownsRow base 5 1 v' (l ++ m).length ((l ++ m).map bv) ∧ Keeps v.ownBlock.toList w w' ∧
      (v'.ownBlock = v.ownBlock ∨ ∀ k, v'.ownBlock = some k → w.heap.size ≤ k) := by
  obtain ⟨i0, hi, hz0, hz1, hz2⟩ := info_parts infoByte
  rcases hr with ⟨rfl, rfl⟩ | ⟨ad, cap, rfl, hcap, hb, hc⟩
  · have := run_append_owned_none (P := Try.prog) (w := w) base 49 ty 5 i0 1 Try.underlying49 hi v l.length (l.map bv) (by rw [← hz1] at hown ⊢; exact hown)
    refine ⟨v, w, this, by rw [List.append_nil]; exact hown, Keeps.refl _ _, .inl rfl⟩
  · have hnews : ∀ j y, (m.map bv)[j]? = some y → w.cell? (ad.add j) = some y := by
      intro j y hy
      rw [List.getElem?_map] at hy
      obtain ⟨c, h1, rfl⟩ := Option.map_eq_some_iff.1 hy
      exact hc j c h1
    have main := fun b hown hbase => run_append_own (P := Try.prog) w b 49 ty 5 i0 (.int .u8 0) 1 1 Try.underlying49 hi hz0 hz1 hz2 rfl (by decide) v l.length (l.map bv) hown ad m.length cap (m.map bv) (by simp) hnews (one_bytes _) (by unfold maxLen; omega) (by omega) hbase
    have hm0 := hown
    obtain ⟨hl, h2⟩ := hm0
    rcases h2 with ⟨rfl, hl0⟩ | ⟨g, cp, cur, rfl, hbg, hg, hnc, hcm, hcs, htk⟩
    · obtain ⟨v', w', hrun, hown', hg, _⟩ := main w.heap.size ⟨hl, .inl ⟨rfl, hl0⟩⟩ (Nat.le_refl _)
      refine ⟨v', w', hrun, ?_, Keeps.grown hg (fun k hk => by cases hk), .inr fun k hk => ?_⟩
      · rw [List.length_append, List.map_append]
        refine ⟨hown'.1, ?_⟩
        rcases hown'.2 with h0 | ⟨g2, c2, cur2, hv2, hb2, r⟩
        · exact .inl h0
        · exact .inr ⟨g2, c2, cur2, hv2, by omega, r⟩
      · exact (hown'.lt k hk).1
    · obtain ⟨v', w', hrun, hown', hgr, _⟩ := main base hown hbase
      refine ⟨v', w', hrun, by rw [List.length_append, List.map_append]; exact hown', Keeps.grown hgr (fun k hk => .inl (by simp [hk])), ?_⟩
      by_cases hroom : l.length + m.length ≤ cp
      · have hfit : l.length * i0.size + (m.map bv).length ≤ cur.size := by rw [hz1, hcs]; simp; omega
        have hr2 := run_append_room (P := Try.prog) w 49 ty 5 i0 Try.underlying49 hi g l.length cp cur hg ad m.length cap (m.map bv) (by rw [hz1]; simp) hnews (one_bytes _) hroom hfit
        rw [hrun] at hr2
        injection hr2 with e1 e2
        exact .inl (by rw [e1]; rfl)
      · have holds : ∀ j u, (l.map bv)[j]? = some u → w.cell? ((⟨g, 0, none⟩ : Addr).add j) = some u := hown.cells (g := g) rfl
        have hr2 := run_append_grow (P := Try.prog) w 49 ty 5 i0 (.int .u8 0) Try.underlying49 hi hz0 ⟨g, 0, none⟩ l.length cp (l.map bv) (by rw [hz1]; simp) holds ad m.length cap (m.map bv) (by rw [hz1]; simp) hnews (by omega) (by omega) (growslice_fits (by omega) (by rw [hz2]; omega))
        rw [hrun] at hr2
        injection hr2 with e1 e2
        exact .inr fun k hk => by rw [e1] at hk; simp [Value.ownBlock] at hk; omega

theorem wpList_append_bb {ops : Array Oper} {rest : List Oper} {o : Oper} {a : Act} {w : World} {Q : Exit → Act → World → Prop} (hgd : o.guard = none) (s x : Operand)
    (ho : o.op = .call { callee := .builtin .append, args := #[s, x], argTypes := #[49, 49] }) (base : Nat) (v : Value) (l : List UInt8) (hs : a.eval s = v) (hown : w.ownsRow base 5 1 v l.length (l.map bv))
    (u : Value) (m : List UInt8) (M : Nat) (hx : a.eval x = u) (hr : Reads w u m M) (hlen : l.length + m.length ≤ 140737488355328) (hbase : base ≤ w.heap.size)
    (h : ∀ v' w', w'.ownsRow base 5 1 v' (l ++ m).length ((l ++ m).map bv) → Keeps v.ownBlock.toList w w' → (v'.ownBlock = v.ownBlock ∨ ∀ k, v'.ownBlock = some k → w.heap.size ≤ k) → wpList Try.prog ops Q rest (a.put o.dst v') w') : wpList Try.prog ops Q (o :: rest) a w := by
  obtain ⟨v', w', hrun, h1, h2, h3⟩ := run_append_bb w base o.type v l hown u m M hr hlen hbase
  refine wpList_plain hgd fun K hK => ?_
  unfold Oper.wp
  simp [execOp, ho, resolve, invoke, builtin, hs, hx, hrun, Result.andThen]
  exact hK _ _ (h v' w' h1 h2 h3)

theorem owns_reads2 {w : World} {base n : Nat} {v : Value} {l : List UInt8} (h : w.ownsRow base 5 1 v n (l.map bv)) : ∃ M, Reads w v l M ∧ (l ≠ [] → base ≤ M ∧ M < w.heap.size) := by
  have h' := h
  obtain ⟨hl, h2⟩ := h
  rw [List.length_map, Nat.mul_one] at hl
  rcases h2 with ⟨rfl, rfl⟩ | ⟨g, cap, cur, rfl, hb, hg, _⟩
  · obtain rfl : l = [] := List.eq_nil_of_length_eq_zero hl
    exact ⟨0, Reads.nil _ _, fun h => absurd rfl h⟩
  · have hr := (Row.ofOwnsAt h').reads
    rw [hl] at hr
    exact ⟨g, hr, fun _ => ⟨hb, (Array.getElem?_eq_some_iff.1 hg).1⟩⟩
end Go.Proofs.Ytfnjjanknfmibaa
