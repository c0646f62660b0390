/-
  Parts of bytes that came in; bytes appended to bytes of one's own.
-/
import Derived.Test.YtpabooocbileiaaDoorShaU
import Derived.Laws.AppendOwnNone
namespace Go.Proofs.YtpabooocbileiaaDoor
open Go.RowKit Go.Deep Go.ChangeShapes Go.WideShapes

/-- A slice of slices of bytes, as it lies. -/
def Parts (w : World) (v : Value) (ls : List (List UInt8)) : Prop :=
  (v = .slice none 0 0 ∧ ls = []) ∨ ∃ (a : Addr) (cap : Nat), v = .slice (some a) ls.length cap ∧ ls.length ≤ maxLen ∧
    ∀ i l, ls[i]? = some l → ∃ u M, w.cell? (a.add i) = some u ∧ Reads w u l M ∧ l.length ≤ maxLen ∧ (l ≠ [] → M < w.heap.size)

theorem parts_of {w : World} {a : Addr} {len : Nat} (h : ∀ i, i < len → ∃ u l M, w.cell? (a.add i) = some u ∧ Reads w u l M ∧ l.length ≤ maxLen ∧ (l ≠ [] → M < w.heap.size)) :
    ∃ ls : List (List UInt8), ls.length = len ∧ ∀ i l, ls[i]? = some l → ∃ u M, w.cell? (a.add i) = some u ∧ Reads w u l M ∧ l.length ≤ maxLen ∧ (l ≠ [] → M < w.heap.size) := by
  induction len with
  | zero => exact ⟨[], rfl, fun i l hl => by simp at hl⟩
  | succ k ih =>
    obtain ⟨ls, hl, hc⟩ := ih (fun i hi => h i (by omega))
    obtain ⟨u, l, M, hu⟩ := h k (by omega)
    refine ⟨ls ++ [l], by simp [hl], fun i x hx => ?_⟩
    by_cases hi : i < ls.length
    · rw [List.getElem?_append_left hi] at hx; exact hc i x hx
    · have hil : i = ls.length := by
        have := (List.getElem?_eq_some_iff.1 hx).1
        simp at this; omega
      subst hil
      simp at hx
      subst hx
      rw [hl]; exact ⟨u, M, hu⟩

theorem cellsBytes : Tryd.prog.cellsOf 22 = 1 := by kernel_rfl

theorem parts_read {H : Type} {enc : TypeId × Value → H} {W : World} {b0 fuel : Nat} {spare : Nat → Bool} {held : Bool} {v : Value} {x : DataW H × List MemPlace} (h : DataW.trod enc Tryd.prog W b0 spare held fuel 37 [v] = some x) :
    ∃ ls, Parts W v ls := by
  rcases open_slice Tryd.underlying37 h with ⟨hcs, _⟩ | ⟨a, len, cap, m, n, D, Pl, hcs, _, hl, hm, hmm, _, hi⟩
  · obtain rfl : v = .slice none 0 0 := by simpa using hcs
    exact ⟨[], .inl ⟨rfl, rfl⟩⟩
  · obtain rfl : v = .slice (some a) len cap := by simpa using hcs
    obtain ⟨ls, hls, hc⟩ := parts_of (w := W) (a := a) (len := len) (fun i hlt => by
      have him : i < m := by rw [hmm]; split <;> omega
      obtain ⟨cells, hc, htr⟩ := hi i him
      rw [cellsBytes] at hc
      obtain ⟨_, hcl, hat⟩ := World.cells?_some hc
      match cells, hcl with
      | [u], _ =>
        obtain ⟨l, M, h1, h2, h3⟩ := bytes_read htr
        have h0 := hat 0 (by decide)
        rw [Nat.mul_one, Deep.add_add, Nat.add_zero] at h0
        exact ⟨u, l, M, h0, h1, h2, h3⟩)
    exact ⟨ls, .inr ⟨a, cap, by rw [hls], by omega, hc⟩⟩

theorem World.ownsRow.keeps {w w' : World} {base : Nat} {T : TypeId} {size n : Nat} {v : Value} {xs : List Value} {S : List Nat} (h : w.ownsRow base T size v n xs) (hk : Keeps S w w') (hS : ∀ g, v.ownBlock = some g → g ∉ S) : w'.ownsRow base T size v n xs := by
  obtain ⟨hl, h2⟩ := h
  refine ⟨hl, ?_⟩
  rcases h2 with h2 | ⟨g, cap, cur, rfl, hb, hg, hr⟩
  · exact .inl h2
  · exact .inr ⟨g, cap, cur, rfl, hb, hk.obj hg (hS g rfl), hr⟩

theorem owns_reads {w : World} {base n : Nat} {v : Value} {l : List UInt8} (h : w.ownsRow base 5 1 v n (l.map bv)) (hb : 0 < w.heap.size) : ∃ M, Reads w v l M ∧ M < w.heap.size := by
  have h' := h
  obtain ⟨hl, h2⟩ := h
  rw [List.length_map, Nat.mul_one] at hl
  rcases h2 with ⟨rfl, rfl⟩ | ⟨g, cap, cur, rfl, _, hg, _⟩
  · obtain rfl : l = [] := List.eq_nil_of_length_eq_zero hl
    exact ⟨0, Reads.nil _ _, hb⟩
  · have hr := (Row.ofOwnsAt h').reads
    rw [hl] at hr
    exact ⟨g, hr, (Array.getElem?_eq_some_iff.1 hg).1⟩

theorem wpList_append_reads {ops : Array Oper} {rest : List Oper} {o : Oper} {a : Act} {w : World} {Q : Exit → Act → World → Prop} (hgd : o.guard = none) (s x : Operand)
    (ho : o.op = .call { callee := .builtin .append, args := #[s, x], argTypes := #[22, 22] }) (base : Nat) (v : Value) (l : List UInt8) (hs : a.eval s = v) (hown : w.ownsRow base 5 1 v l.length (l.map bv))
    (u : Value) (m : List UInt8) (M : Nat) (hx : a.eval x = u) (hr : Reads w u m M) (hlen : l.length + m.length ≤ 1000000) (hbase : base ≤ w.heap.size)
    (h : ∀ v' w', w'.ownsRow base 5 1 v' (l ++ m).length ((l ++ m).map bv) → Keeps v.ownBlock.toList w w' → wpList Tryd.prog ops Q rest (a.put o.dst v') w') : wpList Tryd.prog ops Q (o :: rest) a w := by
  obtain ⟨i0, hi, hz0, hz1, hz2⟩ := info_parts infoByte
  rcases hr with ⟨rfl, rfl⟩ | ⟨ad, cap, rfl, hcap, hb, hc⟩
  · refine wpList_append_own_none hgd s x 22 ho base 5 i0 1 Tryd.underlying22 hi v l.length (l.map bv) hs (by rw [← hz1] at hown ⊢; exact hown) hx ?_
    exact h v w (by rw [List.append_nil]; exact hown) (Keeps.refl _ _)
  · refine wpList_append_own w hgd s x 22 ho base 5 i0 (.int .u8 0) 1 1 Tryd.underlying22 hi hz0 hz1 hz2 rfl (by decide) v l.length (l.map bv) hs hown ad m.length cap (m.map bv) hx (by simp) ?_ (one_bytes _) (by unfold maxLen; omega) (by omega) hbase ?_
    · intro j y hy
      rw [List.getElem?_map] at hy
      obtain ⟨c, h1, rfl⟩ := Option.map_eq_some_iff.1 hy
      exact hc j c h1
    · intro v' w' hown' hg _
      refine h v' w' (by rw [List.length_append, List.map_append]; exact hown') (Keeps.grown hg (fun k hk => .inl (by simp [hk])))
end Go.Proofs.YtpabooocbileiaaDoor
