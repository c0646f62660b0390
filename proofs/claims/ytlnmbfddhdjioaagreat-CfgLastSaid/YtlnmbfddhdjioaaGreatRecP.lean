/-
  Contracts of the statements' own helpers: written, all.
-/
import Derived.Test.YtlnmbfddhdjioaaGreatRecO
import Derived.Test.YtlnmbfddhdjioaaGreatGround
namespace Go.Proofs.YtlnmbfddhdjioaaGreat
open Go.RowKit

/-- A flash of eight sectors with records, one behind the other. -/
structure Wrote (s : FS) (ps : List (List UInt8)) : Prop where
  bytes : ∃ t, s.bs = recsL ps ++ t ∧ blank t
  len : s.bs.length = 2048
  down : s.down = false
  armed : s.armed = false

theorem Wrote.more {s : FS} {ps : List (List UInt8)} (h : Wrote s ps) (p : List UInt8) (hp : p.length ≤ 4080) (hs : sizes ps + sizeN p.length ≤ 2048) :
    ∃ s', s.write (sizes ps) p = (s', 0) ∧ Wrote s' (ps ++ [p]) := by
  obtain ⟨t, hb, ht⟩ := h.bytes
  have hl := recsL_length ps
  have hd : s.bs.drop (sizes ps) = t := by
    rw [hb, List.drop_append_of_le_length (by omega), List.drop_of_length_le (by omega), List.nil_append]
  have hw := write_blank (s := s) (sizes ps) p hp h.down h.armed (sizes_mod ps) (by rw [h.len]; exact hs) (by rw [hd]; exact ht)
  refine ⟨_, hw, ⟨t.drop (sizeN p.length), ?_, fun c hc => ht c (List.mem_of_mem_drop hc)⟩, ?_, h.down, h.armed⟩
  · show put s.bs (sizes ps) (recB p) = _
    unfold put
    rw [recsL_snoc, recB_length, ← List.drop_drop, hd, hb, List.take_append_of_le_length (by omega), List.take_of_length_le (by omega), List.append_assoc]
  · show (put s.bs (sizes ps) (recB p)).length = 2048
    rw [put_length _ _ _ (by rw [recB_length, h.len]; exact hs), h.len]

theorem Fresh8.wrote {s : FS} (h : Fresh8 s) : Wrote s [] := ⟨⟨s.bs, rfl, h.all⟩, h.len, h.down, h.armed⟩

/-- The first bytes, at the same place. -/
theorem Reads.first {w : World} {a : Option Addr} {cap : Nat} {l : List UInt8} {M : Nat} (h : Reads w (.slice a l.length cap) l M) (n : Nat) (hn : n ≤ l.length) : Reads w (.slice a n cap) (l.take n) M := by
  rcases h with ⟨hv, rfl⟩ | ⟨ad, c, hv, hc, hb, hcell⟩
  · simp at hv hn
    obtain ⟨rfl, rfl⟩ := hv
    subst hn
    exact .inl ⟨rfl, rfl⟩
  · simp at hv
    obtain ⟨rfl, rfl⟩ := hv
    have hl : (l.take n).length = n := by simp; omega
    refine .inr ⟨ad, cap, by rw [hl], by omega, fun hne => hb (by intro e; subst e; simp at hne), fun i x hi => ?_⟩
    rw [List.getElem?_take] at hi
    split at hi
    · exact hcell i x hi
    · cases hi

theorem run_cutP (w : World) (a : Option Addr) (len cap hi : Nat) (h : hi ≤ cap) : (Instr.sliceAt 136 (.slice a len cap) none (some (.int .i64 hi)) none).run Tryz.prog w = .ok (.slice a hi cap) w := by
  have hel : Tryz.prog.elem 136 = 23 := by kernel_rfl
  have hu : Tryz.prog.underlying 136 = some (.slice (Tryz.prog.elem 136)) := by rw [hel]; exact Tryz.underlying136
  have hsz : (sizeOf 23).run Tryz.prog w = .ok 1 w := by kernel_rfl
  rw [run_sliceAt_slice _ _ _ _ _ _ hu, run_slice_h _ _ _ _ _ hu _ _ (by omega) (by omega), hel, hsz]
  simp only [Result.andThen, sliced, Int.toNat_natCast]
  by_cases hc : cap = 0
  · rw [if_pos hc]; simp
  · rw [if_neg hc]
    cases a with
    | none => rfl
    | some ad => simp [Addr.add]

theorem run_firstB (w : World) (a : Option Addr) (len cap hi : Nat) (h : hi ≤ cap) : (Instr.sliceAt 23 (.slice a len cap) none (some (.int .i64 hi)) none).run Tryz.prog w = .ok (.slice a hi cap) w := by
  rw [run_cut_h _ _ _ _ _ h]
  simp only [sliced]
  by_cases hc : cap = 0
  · rw [if_pos hc]; simp
  · rw [if_neg hc]
    cases a with
    | none => rfl
    | some ad => simp [Addr.add]
end Go.Proofs.YtlnmbfddhdjioaaGreat
