/-
  Rows of one's own: what keeps them, bytes appended to bytes.
-/
import Derived.Test.YtdcfcljgennipaaWords
import Derived.Laws.AppendOwnNone
namespace Go.Proofs.Ytdcfcljgennipaa
open Go.RowKit

theorem Whole.owns {w : World} {b base n cap : Nat} {T : TypeId} {xs ys : List Value} (h : Whole w b T (xs ++ ys)) (hb : base ≤ b) (hn : xs.length = n) (hc : n + ys.length = cap) (hm : cap ≤ maxLen) : w.ownsRow base T 1 (.slice (some ⟨b, 0, none⟩) n cap) n xs := by
  refine ⟨by omega, .inr ⟨b, cap, _, rfl, hb, h, by omega, hm, by simp; omega, ?_⟩⟩
  simp [hn]

theorem run_min2 (w : World) (ts : Array TypeId) (t : TypeId) (a b : Int) (n : Nat) (hn : (n : Int) = min a b) :
    (Builtin.min_ ts t #[.int .i64 a, .int .i64 b]).run Try.prog w = .ok (.int .i64 (n : Int)) w := by
  rw [run_min_int2, hn]
  congr 2
  rw [Int.min_def]
  split <;> split <;> omega

theorem owns_shape2 {w : World} {base : Nat} {T : TypeId} {size n : Nat} {v : Value} {xs : List Value} (h : w.ownsRow base T size v n xs) : ∃ ao cap, v = .slice ao n cap := by
  rcases h.2 with ⟨rfl, rfl⟩ | ⟨g, cap, cur, rfl, _⟩
  · exact ⟨none, 0, rfl⟩
  · exact ⟨_, cap, rfl⟩

theorem Keeps.owned2 {S : List Nat} {w wr w' : World} {T : TypeId} {size n : Nat} {v : Value} {xs : List Value} (hk : Keeps S w wr) (h : wr.ownsRow w.heap.size T size v n xs) (hg : wr.grownBy w' v.ownBlock) : Keeps S w w' :=
  ⟨hg.os.trans hk.os, hg.tape.trans hk.tape, hg.output.trans hk.output, Nat.le_trans hk.size hg.size, fun k hlt hs =>
    (hg.block k (Nat.lt_of_lt_of_le hlt hk.size) (fun e => by have := (h.lt k e.symm).1; omega)).trans (hk.block k hlt hs)⟩

theorem World.ownsRow.keeps {w w' : World} {base : Nat} {T : TypeId} {size n : Nat} {v : Value} {xs : List Value} {S : List Nat} (h : w.ownsRow base T size v n xs) (hk : Keeps S w w') (hS : ∀ g, v.ownBlock = some g → g ∉ S) : w'.ownsRow base T size v n xs := by
  obtain ⟨hl, h2⟩ := h
  refine ⟨hl, ?_⟩
  rcases h2 with h2 | ⟨g, cap, cur, rfl, hb, hg, hr⟩
  · exact .inl h2
  · exact .inr ⟨g, cap, cur, rfl, hb, hk.obj hg (hS g rfl), hr⟩

theorem owns_reads {w : World} {base n : Nat} {v : Value} {l : List UInt8} (h : w.ownsRow base 5 1 v n (l.map bv)) (hb : 0 < w.heap.size) : ∃ M, Reads w v l M ∧ M < w.heap.size := by
  have h' := h
  obtain ⟨hl, h2⟩ := h
  rw [List.length_map, Nat.mul_one] at hl
  rcases h2 with ⟨rfl, rfl⟩ | ⟨g, cap, cur, rfl, _, hg, _⟩
  · obtain rfl : l = [] := List.eq_nil_of_length_eq_zero hl
    exact ⟨0, Reads.nil _ _, hb⟩
  · have hr := (Row.ofOwnsAt h').reads
    rw [hl] at hr
    exact ⟨g, hr, (Array.getElem?_eq_some_iff.1 hg).1⟩

theorem wpList_append_reads {ops : Array Oper} {rest : List Oper} {o : Oper} {a : Act} {w : World} {Q : Exit → Act → World → Prop} (hgd : o.guard = none) (s x : Operand)
    (ho : o.op = .call { callee := .builtin .append, args := #[s, x], argTypes := #[22, 22] }) (base : Nat) (v : Value) (l : List UInt8) (hs : a.eval s = v) (hown : w.ownsRow base 5 1 v l.length (l.map bv))
    (u : Value) (m : List UInt8) (M : Nat) (hx : a.eval x = u) (hr : Reads w u m M) (hlen : l.length + m.length ≤ 1000000) (hbase : base ≤ w.heap.size)
    (h : ∀ v' w', w'.ownsRow base 5 1 v' (l ++ m).length ((l ++ m).map bv) → Keeps v.ownBlock.toList w w' → wpList Try.prog ops Q rest (a.put o.dst v') w') : wpList Try.prog ops Q (o :: rest) a w := by
  obtain ⟨i0, hi, hz0, hz1, hz2⟩ := info_parts infoByte
  rcases hr with ⟨rfl, rfl⟩ | ⟨ad, cap, rfl, hcap, hb, hc⟩
  · refine wpList_append_own_none hgd s x 22 ho base 5 i0 1 Try.underlying22 hi v l.length (l.map bv) hs (by rw [← hz1] at hown ⊢; exact hown) hx ?_
    exact h v w (by rw [List.append_nil]; exact hown) (Keeps.refl _ _)
  · refine wpList_append_own w hgd s x 22 ho base 5 i0 (.int .u8 0) 1 1 Try.underlying22 hi hz0 hz1 hz2 rfl (by decide) v l.length (l.map bv) hs hown ad m.length cap (m.map bv) hx (by simp) ?_ (one_bytes _) (by unfold maxLen; omega) (by omega) hbase ?_
    · intro j y hy
      rw [List.getElem?_map] at hy
      obtain ⟨c, h1, rfl⟩ := Option.map_eq_some_iff.1 hy
      exact hc j c h1
    · intro v' w' hown' hg _
      refine h v' w' (by rw [List.length_append, List.map_append]; exact hown') (Keeps.grown hg (fun k hk => .inl (by simp [hk])))
end Go.Proofs.Ytdcfcljgennipaa
