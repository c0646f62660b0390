/-
  A write that is torn, and what is written behind it: plain mathematics of the flash.
-/
import Derived.Test.YtlnmbfddhdjioaaGreatRecQ
import Derived.Test.YtlnmbfddhdjioaaGreatRecRowA
namespace Go.Proofs.YtlnmbfddhdjioaaGreat
open Go.RowKit

theorem span_torn (bs : List UInt8) (a : Nat) (l m : List UInt8) (h : a + l.length ≤ bs.length) (hb : blank (bs.drop a)) : span bs a l.length (fun i c => gClear l (m.getD i 0) i c) = put bs a (tornL m l) := by
  apply List.ext_getElem?
  intro j
  rw [span_get]
  have h1 : (bs.take a).length = a := by simp; omega
  unfold put
  rw [tornL_length]
  by_cases hj : j < a
  · rw [List.getElem?_append_left (by omega), List.getElem?_take, if_pos hj]
    cases bs[j]? with
    | none => rfl
    | some c => simp [show ¬ a ≤ j by omega]
  · rw [List.getElem?_append_right (by omega), h1]
    by_cases hj2 : j < a + l.length
    · rw [List.getElem?_append_left (by rw [tornL_length]; omega), blank_get hb (by omega) (by omega), tornL_get, List.getElem?_eq_getElem (show j - a < l.length by omega)]
      simp only [Option.map_some]
      rw [if_pos ⟨by omega, hj2⟩]
      have hg : l.getD (j - a) 0 = l[j - a]'(by omega) := by rw [List.getD_eq_getElem?_getD, List.getElem?_eq_getElem (by omega)]; rfl
      unfold gClear
      rw [hg]
      rfl
    · rw [List.getElem?_append_right (by rw [tornL_length]; omega), tornL_length, List.getElem?_drop, show a + l.length + (j - a - l.length) = j by omega]
      cases bs[j]? with
      | none => rfl
      | some c => simp [show ¬ j < a + l.length by omega]

/-- A program that is armed, and whose turn has not come. -/
theorem program_armed {s : FS} (a : Nat) (l : List UInt8) (hd : s.down = false) (hu : s.armed = true) (h0 : s.left ≠ 0) (h4 : a % 4 = 0) (hl4 : l.length % 4 = 0) (hne : l ≠ []) (hle : a + l.length ≤ s.bs.length) (hb : blank (s.bs.drop a)) :
    s.program a l = ({ s with bs := put s.bs a l, left := s.left - 1 }, 0) := by
  have hm : s.mayProgram a l.length = 0 := FS.mayProgram_ok hd (by unfold FS.has; omega) (by omega) (by omega)
  rw [FS.program_let hm hne, Int.toNat_natCast]
  unfold FS.let
  rw [if_neg (fun h => h0 h.2), span_blank _ _ _ hle hb, hu, if_pos rfl]

/-- A program that is torn. -/
theorem program_torn {s : FS} (a : Nat) (l : List UInt8) (hd : s.down = false) (hu : s.armed = true) (h0 : s.left = 0) (h4 : a % 4 = 0) (hl4 : l.length % 4 = 0) (hne : l ≠ []) (hle : a + l.length ≤ s.bs.length) (hb : blank (s.bs.drop a)) :
    s.program a l = ({ s with bs := put s.bs a (tornL s.mask l), down := true, armed := false, left := 0, mask := [] }, 12) := by
  have hm : s.mayProgram a l.length = 0 := FS.mayProgram_ok hd (by unfold FS.has; omega) (by omega) (by omega)
  rw [FS.program_let hm hne, FS.let_torn hu h0, Int.toNat_natCast, span_torn _ _ _ _ hle hb]

/-- Write, torn at its k-th program. -/
theorem write_torn {s : FS} (a : Nat) (p : List UInt8) (k : Nat) (hk : k < 3) (hp : p.length ≤ 4080) (hd : s.down = false) (hu : s.armed = true) (hl : s.left = (k : Int)) (h4 : a % 4 = 0) (hle : a + sizeN p.length ≤ s.bs.length) (hb : blank (s.bs.drop a)) :
    s.write a p = ({ s with bs := put s.bs a (tornBytes k s.mask p), down := true, armed := false, left := 0, mask := [] }, 12) := by
  have hf := fillN_mod p.length
  have h0 : (headB p.length).length = 4 := headB_length _
  have h1 : (bodyB p).length = fillN p.length + 4 := bodyB_length p
  have hsz : sizeN p.length = 12 + fillN p.length := rfl
  have hr : s.readErr a (sizeN p.length) = 0 := by
    unfold FS.readErr
    rw [hd, if_neg (by simp), if_pos (by unfold FS.has; omega)]
  have hne0 : headB p.length ≠ [] := by intro e; rw [e] at h0; cases h0
  have hne1 : bodyB p ≠ [] := by intro e; rw [e] at h1; simp at h1
  have b1 : blank ((put s.bs a (headB p.length)).drop (a + 4)) := by have := blank_drop_put (bs := s.bs) (a := a) (l := headB p.length) (by omega) hb; rwa [h0] at this
  have l1 : (put s.bs a (headB p.length)).length = s.bs.length := put_length _ _ _ (by omega)
  have b2 := blank_drop_put (bs := put s.bs a (headB p.length)) (a := a + 4) (l := bodyB p) (by omega) b1
  have l2 : (put (put s.bs a (headB p.length)) (a + 4) (bodyB p)).length = s.bs.length := by rw [put_length _ _ _ (by omega), l1]
  have pp1 : ∀ x : List UInt8, x.length = (bodyB p).length → put (put s.bs a (headB p.length)) (a + 4) x = put s.bs a (headB p.length ++ x) := fun x hx => by
    have := put_put s.bs a (headB p.length) x (by omega)
    rwa [h0] at this
  have pp2 : ∀ x : List UInt8, x.length = 4 → put (put (put s.bs a (headB p.length)) (a + 4) (bodyB p)) (a + 4 + (bodyB p).length) x = put s.bs a (headB p.length ++ (bodyB p ++ x)) := fun x hx => by
    have hy : (headB p.length ++ bodyB p).length = 4 + (bodyB p).length := by simp [h0]
    have := put_put s.bs a (headB p.length ++ bodyB p) x (by rw [hy]; omega)
    rw [hy, ← Nat.add_assoc, List.append_assoc] at this
    rw [pp1 _ rfl]; exact this
  unfold FS.write
  rw [if_neg (by omega), if_neg (fun h => h.2 hr)]
  match k, hk with
  | 0, _ =>
    have e1 := program_torn (s := s) a (headB p.length) hd hu hl h4 (by rw [h0]) hne0 (by omega) hb
    simp only [stepP]
    rw [e1, if_pos (by simp)]
    rfl
  | 1, _ =>
    have e1 := program_armed (s := s) a (headB p.length) hd hu (by omega) h4 (by rw [h0]) hne0 (by omega) hb
    have e2 := program_torn (s := { s with bs := put s.bs a (headB p.length), left := s.left - 1 }) (a + 4) (bodyB p) hd hu (by simp only [hl]; rfl) (by omega) (by omega) hne1 (by simp only [l1]; omega) b1
    simp only [stepP]
    rw [e1, if_neg (by simp)]
    simp only [h0]
    rw [show ((a : Int) + ((4 : Nat) : Int)) = ((a + 4 : Nat) : Int) by omega, e2, if_pos (by simp)]
    simp only [pp1 _ (tornL_length _ _)]
    rfl
  | 2, _ =>
    have e1 := program_armed (s := s) a (headB p.length) hd hu (by omega) h4 (by rw [h0]) hne0 (by omega) hb
    have e2 := program_armed (s := { s with bs := put s.bs a (headB p.length), left := s.left - 1 }) (a + 4) (bodyB p) hd hu (by simp only [hl]; decide) (by omega) (by omega) hne1 (by simp only [l1]; omega) b1
    have e3 := program_torn (s := { s with bs := put (put s.bs a (headB p.length)) (a + 4) (bodyB p), left := s.left - 1 - 1 }) (a + 4 + (bodyB p).length) [0, 0, 0, 0] hd hu (by simp only [hl]; rfl) (by omega) (by rfl) (by simp) (by simp only [l2, List.length_cons, List.length_nil]; omega) b2
    simp only [stepP]
    rw [e1, if_neg (by simp)]
    simp only [h0]
    rw [show ((a : Int) + ((4 : Nat) : Int)) = ((a + 4 : Nat) : Int) by omega, e2, if_neg (by simp)]
    simp only
    rw [show (((a + 4 : Nat) : Int) + (((bodyB p).length : Nat) : Int)) = ((a + 4 + (bodyB p).length : Nat) : Int) by omega, e3, if_pos (by simp)]
    simp only [pp2 (tornL s.mask [0, 0, 0, 0]) (by rw [tornL_length]; rfl)]
    rfl

/-- A flash with things on it, one behind the other, and nothing behind them. -/
structure Has (s : FS) (xs : List (List UInt8 × R4)) : Prop where
  bytes : ∃ t, s.bs = itemsL xs ++ t ∧ blank t
  items : ∀ x ∈ xs, IsItem x
  len : s.bs.length = 2048
  down : s.down = false
  armed : s.armed = false

def sumI (xs : List (List UInt8 × R4)) : Nat := (xs.map fun x => x.2.size).sum

theorem itemsL_length : ∀ (xs : List (List UInt8 × R4)), (∀ x ∈ xs, IsItem x) → (itemsL xs).length = sumI xs
  | [], _ => rfl
  | x :: xs, h => by
    have := itemsL_length xs (fun y hy => h y (List.mem_cons_of_mem _ hy))
    have hx := (h x (by simp)).size
    unfold itemsL sumI at *
    rw [List.flatMap_cons, List.length_append, this, hx]; simp

theorem rowI_sum : ∀ (a : Nat) (xs : List (List UInt8 × R4)), ((rowI a xs).map fun x => x.2.size).sum = sumI xs
  | _, [] => rfl
  | a, x :: xs => by simp only [rowI, List.map_cons, List.sum_cons, rowI_sum]; rfl

theorem rowI_length : ∀ (a : Nat) (xs : List (List UInt8 × R4)), (rowI a xs).length = xs.length
  | _, [] => rfl
  | a, x :: xs => by simp only [rowI, List.length_cons, rowI_length]

theorem Has.row {s : FS} {xs : List (List UInt8 × R4)} (h : Has s xs) : rowL s.bs = rowI 0 xs ∧ endK s.bs = sumI xs := by
  obtain ⟨t, hb, ht⟩ := h.bytes
  have hr := isRow_items s.bs t ht xs 0 (by rw [List.drop_zero]; exact hb) h.items
  have h1 : rowL s.bs = rowI 0 xs := hr.eq.symm
  refine ⟨h1, ?_⟩
  have := placeK_row hr 0 rfl
  unfold endK
  rw [h1]
  rw [Nat.zero_add, Nat.zero_add, rowI_sum] at this
  exact this

theorem Has.from {s : FS} {xs : List (List UInt8 × R4)} (h : Has s xs) : blank (s.bs.drop (sumI xs)) := by
  obtain ⟨t, hb, ht⟩ := h.bytes
  have hl := itemsL_length xs h.items
  rw [hb, List.drop_append_of_le_length (by omega), List.drop_of_length_le (by omega), List.nil_append]
  exact ht

theorem Wrote.has {s : FS} {ps : List (List UInt8)} (h : Wrote s ps) (hp : ∀ p ∈ ps, p.length ≤ 200) : Has s (ps.map recItem) ∧ sumI (ps.map recItem) = sizes ps := by
  obtain ⟨t, hb, ht⟩ := h.bytes
  refine ⟨⟨⟨t, by rw [itemsL_recs]; exact hb, ht⟩, fun x hx => ?_, h.len, h.down, h.armed⟩, ?_⟩
  · obtain ⟨p, hpm, rfl⟩ := List.mem_map.1 hx
    exact item_rec p (by have := hp p hpm; omega)
  · rw [← rowI_sum 0, rowI_recs, entries_sum]

/-- What is put behind, where nothing was. -/
theorem Has.put {s : FS} {xs : List (List UInt8 × R4)} (h : Has s xs) (ys : List (List UInt8 × R4)) (l : List UInt8) (pad z : Nat) (hl : l ++ List.replicate pad 255 = itemsL ys ++ List.replicate z 255) (hys : ∀ y ∈ ys, IsItem y) (hle : sumI xs + l.length + pad ≤ 2048) (s' : FS) (hs : s'.bs = put s.bs (sumI xs) l) (hd : s'.down = false) (ha : s'.armed = false) :
    Has s' (xs ++ ys) := by
  obtain ⟨t, hb, ht⟩ := h.bytes
  have hL := itemsL_length xs h.items
  have htl : t.length = 2048 - sumI xs := by
    have := congrArg List.length hb
    rw [h.len, List.length_append, hL] at this; omega
  refine ⟨⟨List.replicate z 255 ++ t.drop (l.length + pad), ?_, ?_⟩, fun x hx => ?_, ?_, hd, ha⟩
  · rw [hs]
    unfold Proofs.YtlnmbfddhdjioaaGreat.put
    have h1 : s.bs.take (sumI xs) = itemsL xs := by rw [hb, List.take_append_of_le_length (by omega), List.take_of_length_le (by omega)]
    have h20 : s.bs.drop (sumI xs) = t := by rw [hb, List.drop_append_of_le_length (by omega), List.drop_of_length_le (by omega), List.nil_append]
    have h2 : s.bs.drop (sumI xs + l.length) = t.drop l.length := by rw [← List.drop_drop, h20]
    have h3 : t.drop l.length = List.replicate pad 255 ++ t.drop (l.length + pad) := by
      have hbl : blank (t.drop l.length) := fun c hc => ht c (List.mem_of_mem_drop hc)
      have e := blank_eq hbl
      have e2 : blank (t.drop (l.length + pad)) := fun c hc => ht c (List.mem_of_mem_drop hc)
      rw [e, blank_eq e2, List.replicate_append_replicate]
      congr 1
      simp; omega
    rw [h1, h2, h3, ← List.append_assoc l, hl]
    unfold itemsL
    rw [List.flatMap_append]
    simp only [List.append_assoc]
  · intro c hc
    rcases List.mem_append.1 hc with hc | hc
    · exact List.eq_of_mem_replicate hc
    · exact ht c (List.mem_of_mem_drop hc)
  · rcases List.mem_append.1 hx with hx | hx
    · exact h.items x hx
    · exact hys x hx
  · rw [hs, put_length _ _ _ (by rw [h.len]; omega), h.len]
end Go.Proofs.YtlnmbfddhdjioaaGreat
