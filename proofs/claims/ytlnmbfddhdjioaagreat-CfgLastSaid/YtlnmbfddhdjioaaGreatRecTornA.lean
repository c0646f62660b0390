/-
  RecordTorn: what its walk wants.
-/
import Derived.Test.YtlnmbfddhdjioaaGreatRecS
namespace Go.Proofs.YtlnmbfddhdjioaaGreat
open Go.RowKit

/-- A list of records that Scan made. -/
def Listed (base : Nat) (W : World) (v : Value) (rs : List (Nat × R4)) : Prop :=
  ∃ (ao : Option Addr) (cp : Nat) (vs : List Value), v = .slice ao rs.length cp ∧ W.ownsRow base 122 4 (.slice ao rs.length cp) rs.length (recsCells rs vs) ∧ RecsIn base W rs vs

theorem Listed.keeps {S : List Nat} {base : Nat} {W X : World} {v : Value} {rs : List (Nat × R4)} (h : Listed base W v rs) (hk : Keeps S W X) (hS : ∀ x ∈ S, x < base ∨ W.heap.size ≤ x) : Listed base X v rs := by
  obtain ⟨ao, cp, vs, hv, ho, hr⟩ := h
  exact ⟨ao, cp, vs, hv, World.ownsRow.keeps ho hk (fun g hg hm => by
    obtain ⟨h1, h2⟩ := ho.lt g hg
    rcases hS g hm with h3 | h3 <;> omega), hr.keeps hk hS⟩

theorem Listed.recs {base : Nat} {W : World} {v : Value} {rs : List (Nat × R4)} (h : Listed base W v rs) (hw : 0 < W.heap.size) : RecsAt W v rs := by
  obtain ⟨ao, cp, vs, rfl, ho, hr⟩ := h
  exact RecsAt.ofScan ho hr hw

theorem Listed.shape {base : Nat} {W : World} {v : Value} {rs : List (Nat × R4)} (h : Listed base W v rs) : ∃ ao cp, v = .slice ao rs.length cp ∧ rs.length ≤ cp := by
  obtain ⟨ao, cp, vs, rfl, ho, _⟩ := h
  refine ⟨ao, cp, rfl, ?_⟩
  rcases ho.2 with ⟨h, h0⟩ | ⟨g, cap, cur, h, _, _, h1, _⟩
  · simp at h; omega
  · simp at h; omega

/-- Scan of all of a flash. -/
theorem scan_has {s : FS} {xs : List (List UInt8 × R4)} (h : Has s xs) (w : World) (b c : Nat) (hr : Row w b 5 (s.bs.map bv) c) :
    Calls Tryz.prog 56 #[.slice (some ⟨b, 0, none⟩) 2048 c] w fun e w' => ∃ v, e = .returned v ∧ Listed w.heap.size w' v (rowI 0 xs) ∧ Keeps [] w w' ∧ 0 < w'.heap.size := by
  have hrd := hr.reads
  rw [h.len] at hrd
  have := Scan_any w _ s.bs b hrd (by rw [h.len]; decide) (fun _ => hr.lt)
  rw [h.row.1] at this
  exact this.mono fun _ _ ⟨ao, cp, vs, he, ho, hrs, hk, hl⟩ => ⟨_, he, ⟨ao, cp, vs, rfl, ho, hrs⟩, hk, by omega⟩

theorem end_has {s : FS} {xs : List (List UInt8 × R4)} (h : Has s xs) (w : World) (b c : Nat) (hr : Row w b 5 (s.bs.map bv) c) :
    Calls Tryz.prog 58 #[.slice (some ⟨b, 0, none⟩) 2048 c] w fun e w' => e = .returned (.int .i64 (sumI xs)) ∧ Keeps [] w w' := by
  have hrd := hr.reads
  rw [h.len] at hrd
  have := recEnd_any w _ s.bs b hrd (by rw [h.len]; decide) (fun _ => hr.lt)
  rwa [h.row.2] at this

/-- What the three tears leave, of a flash that has things. -/
theorem Has.torn {s : FS} {xs : List (List UInt8 × R4)} (h : Has s xs) (p mask : List UInt8) (k : Nat) (hk : k < 3) (hp : p.length ≤ 200) (hm4 : sumI xs % 4 = 0) (hle : sumI xs + 440 ≤ 2048) :
    ∃ s' ys, (s.arm k mask).write (sumI xs) p = (s', 12) ∧ Has s'.up (xs ++ ys) ∧
      (ys = [] ∧ k = 0 ∨ (∃ y, ys = [(y, ⟨4, 3, []⟩)]) ∧ k = 0 ∨ (∃ y, ys = [(y, ⟨sizeN p.length, 2, []⟩)]) ∨ ys = [recItem p] ∧ k = 2) := by
  have hf := fillN_lt p.length
  have hsz : sizeN p.length = 12 + fillN p.length := rfl
  have hw := write_torn (s := s.arm k mask) (sumI xs) p k hk (by omega) rfl rfl rfl hm4 (by show _ ≤ s.bs.length; rw [h.len]; omega) (by show blank (s.bs.drop _); exact h.from)
  obtain ⟨ys, pad, hl, hys, hpad, hc⟩ := torn_items k (s.arm k mask).mask p (by omega)
  have hlen : (tornBytes k (s.arm k mask).mask p).length ≤ sizeN p.length := by
    match k, hk with
    | 0, _ => simp [tornBytes, tornL_length, headB_length]; omega
    | 1, _ => simp [tornBytes, tornL_length, headB_length, bodyB_length]; omega
    | 2, _ => simp [tornBytes, tornL_length, headB_length, bodyB_length]; omega
  refine ⟨_, ys, hw, ?_, ?_⟩
  · exact h.put ys _ pad _ hl hys (by omega) _ rfl rfl rfl
  · rcases hc with h1 | h1 | h1 | ⟨h1, h2⟩
    · exact .inl h1
    · exact .inr (.inl h1)
    · exact .inr (.inr (.inl h1))
    · exact .inr (.inr (.inr ⟨h1, by omega⟩))

theorem sumI_append (xs ys : List (List UInt8 × R4)) : sumI (xs ++ ys) = sumI xs + sumI ys := by simp [sumI]

theorem Has.more {s : FS} {xs : List (List UInt8 × R4)} (h : Has s xs) (p : List UInt8) (hp : p.length ≤ 200) (hm4 : sumI xs % 4 = 0) (hle : sumI xs + 300 ≤ 2048) :
    ∃ s', s.write (sumI xs) p = (s', 0) ∧ Has s' (xs ++ [recItem p]) := by
  have hf := fillN_lt p.length
  have hsz : sizeN p.length = 12 + fillN p.length := rfl
  have hw := write_blank (s := s) (sumI xs) p (by omega) h.down h.armed hm4 (by rw [h.len]; omega) h.from
  refine ⟨_, hw, h.put [recItem p] (recB p) 0 0 (by simp [itemsL, recItem]) (fun y hy => by simp at hy; subst hy; exact item_rec p (by omega)) (by rw [recB_length]; omega) _ rfl h.down h.armed⟩

theorem rowI_get (a : Nat) (xs : List (List UInt8 × R4)) (x : List UInt8 × R4) (ys : List (List UInt8 × R4)) : (rowI a (xs ++ x :: ys))[xs.length]? = some (a + sumI xs, x.2) := by
  rw [rowI_append, List.getElem?_append_right (by rw [rowI_length]; exact Nat.le_refl _), rowI_length, Nat.sub_self]
  rfl

theorem rowI_take (a : Nat) (xs ys : List (List UInt8 × R4)) : (rowI a (xs ++ ys)).take xs.length = rowI a xs := by
  rw [rowI_append, List.take_append_of_le_length (by rw [rowI_length]; exact Nat.le_refl _), List.take_of_length_le (by rw [rowI_length]; exact Nat.le_refl _)]
end Go.Proofs.YtlnmbfddhdjioaaGreat
