/-
  Keys and values: what stands behind a head, and what comes behind it (plain mathematics).
  Keys and values: what the flash's functions make of a flash, torn or not (plain mathematics).
  Keys and values: changes of a flash with a ring in use, torn or not (plain mathematics).
  Keys and values: a turn of the ring, torn or not (plain mathematics).
-/
import Derived.Test.YtlnmbfddhdjioaaGreatCfgM
import Derived.Test.YtlnmbfddhdjioaaGreatRecS
import Derived.Test.YtlnmbfddhdjioaaGreatRingTurnA
namespace Go.Proofs.YtlnmbfddhdjioaaGreat

def sumZ (l : List (Nat × R4)) : Nat := (l.map fun x => x.2.size).sum
theorem sumZ_append (l m : List (Nat × R4)) : sumZ (l ++ m) = sumZ l + sumZ m := by simp [sumZ]
theorem sumZ_cons (x : Nat × R4) (l : List (Nat × R4)) : sumZ (x :: l) = x.2.size + sumZ l := rfl

theorem headLen_take (b : List UInt8) : headLen (b.take 4) = headLen b := by
  match b with
  | [] => rfl
  | [_] => rfl
  | [_, _] => rfl
  | [_, _, _] => rfl
  | _ :: _ :: _ :: _ :: _ => rfl

theorem take_agree {b c : List UInt8} {n : Nat} (h : ∀ j, j < n → b[j]? = c[j]?) : b.take n = c.take n := by
  apply List.ext_getElem?
  intro j
  rw [List.getElem?_take, List.getElem?_take]
  split
  · exact h j (by assumption)
  · rfl

theorem headLen_agree {b c : List UInt8} (h : ∀ j, j < 4 → b[j]? = c[j]?) : headLen b = headLen c := by
  rw [← headLen_take b, ← headLen_take c, take_agree h]

theorem firstL_size4 {b : List UInt8} (h : 4 ≤ b.length) : 4 ≤ (firstL b).size := by
  unfold firstL
  split
  · simp; omega
  · split
    · simp; omega
    · split <;> simp [sizeN] <;> omega

theorem firstL_agree {b c : List UInt8} (hl : b.length = c.length) (h : ∀ j, j < (firstL b).size → b[j]? = c[j]?) : firstL b = firstL c := by
  by_cases h4 : 4 ≤ b.length
  case neg =>
    have e : b = c := by
      have hs : (firstL b).size = b.length := by
        have hn : headLen b = none := by
          match b, h4 with
          | [], _ => rfl
          | [_], _ => rfl
          | [_, _], _ => rfl
          | [_, _, _], _ => rfl
          | _ :: _ :: _ :: _ :: _, h4 => exact absurd (by simp) h4
        unfold firstL; rw [hn]; simp; omega
      apply List.ext_getElem?
      intro j
      by_cases hj : j < b.length
      · exact h j (by omega)
      · rw [List.getElem?_eq_none (by omega), List.getElem?_eq_none (by omega)]
    rw [e]
  case pos =>
    have hs := firstL_size4 h4
    have hh : headLen b = headLen c := headLen_agree fun j hj => h j (by omega)
    unfold firstL at h ⊢
    rw [← hh, ← hl]
    cases hn : headLen b with
    | none => rfl
    | some n =>
      rw [hn] at h
      simp only at h ⊢
      by_cases hlt : b.length < sizeN n
      · rw [if_pos hlt, if_pos hlt]
      · rw [if_neg hlt, if_neg hlt]
        rw [if_neg hlt] at h
        have h' : ∀ j, j < sizeN n → b[j]? = c[j]? := by
          intro j hj
          refine h j ?_
          split <;> exact hj
        have e1 : b.take (sizeN n) = c.take (sizeN n) := take_agree h'
        have e2 : (b.drop 4).take n = (c.drop 4).take n := by
          apply List.ext_getElem?
          intro j
          rw [List.getElem?_take, List.getElem?_take]
          split
          · rw [List.getElem?_drop, List.getElem?_drop]
            have := fillN_ge n
            exact h' _ (by unfold sizeN; omega)
          · rfl
        rw [e1, e2]

theorem IsRow.written {b : List UInt8} {a : Nat} {l : List (Nat × R4)} (h : IsRow b a l) : writtenN b ≤ a + sumZ l := by
  induction h with
  | done a h => simpa [sumZ] using h
  | more a h l hl ih => rw [sumZ_cons]; simp only; omega

theorem IsRow.bound {b : List UInt8} {a : Nat} {l : List (Nat × R4)} (h : IsRow b a l) : a ≤ b.length → a + sumZ l ≤ b.length := by
  induction h with
  | done a h => intro h; simpa [sumZ] using h
  | more a h l hl ih =>
    intro ha
    have h1 := writtenN_le b
    have h2 := (firstL_size (b.drop a) (by intro e; have := congrArg List.length e; simp at this; omega)).2
    rw [List.length_drop] at h2
    have := ih (by omega)
    rw [sumZ_cons]; simp only; omega

theorem firstL_mod4 {b : List UInt8} (h : b.length % 4 = 0) : (firstL b).size % 4 = 0 := by
  unfold firstL
  split
  · simp; omega
  · split
    · simp; omega
    · split <;> exact sizeN_mod _

theorem IsRow.mod4 {b : List UInt8} {a : Nat} {l : List (Nat × R4)} (h : IsRow b a l) (hb : b.length % 4 = 0) : a % 4 = 0 → (a + sumZ l) % 4 = 0 := by
  induction h with
  | done a h => intro h; simpa [sumZ] using h
  | more a h l hl ih =>
    intro ha
    have h1 := firstL_mod4 (b := b.drop a) (by rw [List.length_drop]; omega)
    have := ih (by omega)
    rw [sumZ_cons]; simp only; omega

/-- Bytes that are the same as far as a row goes have that row, and what comes behind it. -/
theorem IsRow.agree {b c : List UInt8} (hl : b.length = c.length) {a : Nat} {l : List (Nat × R4)} (h : IsRow b a l) :
    ∀ (E : Nat) (r : List (Nat × R4)), E = a + sumZ l → (∀ j, j < E → b[j]? = c[j]?) → IsRow c E r → IsRow c a (l ++ r) := by
  induction h with
  | done a h => intro E r hE _ hr; simp [sumZ] at hE; subst hE; simpa using hr
  | more a h l hl' ih =>
    intro E r hE hag hr
    rw [sumZ_cons] at hE
    simp only at hE
    have hwr := IsRow.written hl'
    have hlt : a < writtenN c := by
      by_cases q : a < writtenN c
      · exact q
      exfalso
      have hbl := (blank_drop c a).2 (by omega)
      obtain ⟨x, hx, hne⟩ := writtenN_last b (by omega)
      rw [hag _ (by omega)] at hx
      refine hne (hbl x (List.mem_iff_getElem?.2 ⟨writtenN b - 1 - a, ?_⟩))
      rw [List.getElem?_drop, show a + (writtenN b - 1 - a) = writtenN b - 1 by omega]; exact hx
    have hf : firstL (b.drop a) = firstL (c.drop a) := by
      refine firstL_agree (by rw [List.length_drop, List.length_drop, hl]) (fun j hj => ?_)
      rw [List.getElem?_drop, List.getElem?_drop]
      exact hag _ (by omega)
    rw [List.cons_append, hf]
    refine IsRow.more a hlt _ ?_
    rw [← hf]
    exact ih E r (by omega) hag hr

def shiftR (k : Nat) (l : List (Nat × R4)) : List (Nat × R4) := l.map fun x => (k + x.1, x.2)
theorem sumZ_shift (k : Nat) (l : List (Nat × R4)) : sumZ (shiftR k l) = sumZ l := by unfold sumZ shiftR; rw [List.map_map]; rfl
theorem entL_shift (k : Nat) (l : List (Nat × R4)) : entL (shiftR k l) = entL l := by
  have : ∀ (l : List (Nat × R4)) (es : List Ent), (shiftR k l).foldl recStep es = l.foldl recStep es := by
    intro l; induction l with
    | nil => exact fun _ => rfl
    | cons x r ih => exact fun es => ih (recStep es x)
  exact this l []

theorem IsRow.shift {b : List UInt8} (k : Nat) {a : Nat} {l : List (Nat × R4)} (h : IsRow (b.drop k) a l) : IsRow b (k + a) (shiftR k l) := by
  induction h with
  | done a h => exact .done _ ((blank_drop b (k + a)).1 (by have := (blank_drop (b.drop k) a).2 h; rwa [List.drop_drop] at this))
  | more a h l hl ih =>
    have hlt : k + a < writtenN b := by
      by_cases q : k + a < writtenN b
      · exact q
      · exfalso
        have := (blank_drop b (k + a)).2 (by omega)
        rw [← List.drop_drop] at this
        have := (blank_drop (b.drop k) a).1 this
        omega
    have e : shiftR k ((a, firstL ((b.drop k).drop a)) :: l) = (k + a, firstL (b.drop (k + a))) :: shiftR k l := by
      unfold shiftR; rw [List.map_cons, List.drop_drop]
    rw [e]
    refine IsRow.more _ hlt _ ?_
    have : k + (a + (firstL ((b.drop k).drop a)).size) = k + a + (firstL (b.drop (k + a))).size := by rw [List.drop_drop]; omega
    rw [← this]; exact ih

theorem endK_sum (b : List UInt8) : endK b = sumZ (rowL b) := by
  have := placeK_row (isRow_rowL b) 0 rfl
  unfold endK
  rw [Nat.zero_add, Nat.zero_add] at this
  exact this

theorem endK_le (b : List UInt8) : endK b ≤ b.length := by
  rw [endK_sum]; have := (isRow_rowL b).bound (Nat.zero_le _); omega
theorem endK_mod (b : List UInt8) (h : b.length % 4 = 0) : endK b % 4 = 0 := by
  rw [endK_sum]; have := (isRow_rowL b).mod4 h rfl; omega
theorem endK_blank (b : List UInt8) : blank (b.drop (endK b)) := by
  refine (blank_drop b _).2 ?_
  rw [endK_sum]; have := (isRow_rowL b).written; omega

def entB (b : List UInt8) : List Ent := entL (rowL (b.drop 20))
theorem good_entB (b : List UInt8) : Good (entB b) := good_entL _

/-! ### a sector with a head -/
theorem be4_num4 (a b c d : UInt8) : be4 (num4 a b c d) = [a, b, c, d] := by
  have h := num4_toNat a b c d
  have ha := a.toNat_lt; have hb := b.toNat_lt; have hc := c.toNat_lt; have hd := d.toNat_lt
  unfold be4
  rw [h]
  have e : ∀ (n : Nat) (x : UInt8), n % 256 = x.toNat → UInt8.ofNat n = x := fun n x h => by
    apply UInt8.toNat_inj.1; rw [ofNat_toNat]; exact h
  congr 1
  · exact e _ _ (by omega)
  congr 1
  · exact e _ _ (by omega)
  congr 1
  · exact e _ _ (by omega)
  congr 1
  · exact e _ _ (by omega)

theorem numL_some {p : List UInt8} {x : BitVec 32} (h : numL p = some x) : p = headP x := by
  unfold numL at h
  split at h
  · rename_i k a b c d
    split at h
    · rename_i hk
      cases h
      unfold headP
      rw [be4_num4, hk]
    · cases h
  · cases h

/-- What hdrL says of a live sector. -/
theorem live_first {b : List UInt8} {x : BitVec 32} (h : hdrL b = (1, x)) : writtenN b ≠ 0 ∧ firstL b = ⟨20, 1, headP x⟩ := by
  unfold hdrL at h
  by_cases h0 : (atL b).kind = 0
  · rw [if_pos h0] at h; cases h
  rw [if_neg h0] at h
  by_cases h1 : (atL b).kind = 1
  case neg => rw [if_neg h1] at h; cases h
  rw [if_pos h1] at h
  cases hn : numL (atL b).pay with
  | none => rw [hn] at h; cases h
  | some y =>
    rw [hn] at h
    simp only [Prod.mk.injEq, true_and] at h
    subst h
    have hp := numL_some hn
    have hw : writtenN b ≠ 0 := by
      intro e; unfold atL at h0; rw [if_pos e] at h0; exact h0 rfl
    have ha : atL b = firstL b := by unfold atL; rw [if_neg hw]
    rw [ha] at h1 hp
    refine ⟨hw, ?_⟩
    have hl5 : (firstL b).pay.length = 5 := by rw [hp, headP_length]
    have hs : (firstL b).size = sizeN 5 := by
      unfold firstL at h1 hl5 ⊢
      cases hh : headLen b with
      | none => rw [hh] at h1; simp at h1
      | some n =>
        rw [hh] at h1 hl5
        simp only at h1 hl5 ⊢
        by_cases hlt : b.length < sizeN n
        · rw [if_pos hlt] at h1; simp at h1
        rw [if_neg hlt] at h1 hl5 ⊢
        by_cases he : b.take (sizeN n) = recB ((b.drop 4).take n)
        · rw [if_pos he] at hl5 ⊢
          simp only at hl5 ⊢
          rw [List.length_take, List.length_drop] at hl5
          have := fillN_ge n
          have hn5 : n = 5 := by unfold sizeN at hlt; omega
          rw [hn5]
        · rw [if_neg he] at h1; simp at h1
    rw [size5] at hs
    revert hs h1 hp
    generalize firstL b = r
    obtain ⟨z, k, p⟩ := r
    simp only
    rintro rfl rfl rfl
    rfl

theorem live_row {b : List UInt8} {x : BitVec 32} (h : hdrL b = (1, x)) : rowL b = (0, ⟨20, 1, headP x⟩) :: shiftR 20 (rowL (b.drop 20)) := by
  obtain ⟨hw, hf⟩ := live_first h
  have h1 : IsRow b (20 + 0) (shiftR 20 (rowL (b.drop 20))) := IsRow.shift 20 (isRow_rowL (b.drop 20))
  have h2 : IsRow b 0 ((0, firstL (b.drop 0)) :: shiftR 20 (rowL (b.drop 20))) := IsRow.more 0 (by omega) _ (by
    rw [List.drop_zero, hf]; exact h1)
  rw [List.drop_zero, hf] at h2
  exact (h2.eq).symm

theorem live_end {b : List UInt8} {x : BitVec 32} (h : hdrL b = (1, x)) : endK b = 20 + sumZ (rowL (b.drop 20)) := by
  rw [endK_sum, live_row h, sumZ_cons, sumZ_shift]

/-- What comes behind all that stands in a live sector. -/
theorem live_more {b c : List UInt8} {x : BitVec 32} (h : hdrL b = (1, x)) (hl : b.length = c.length) (hag : ∀ j, j < endK b → b[j]? = c[j]?) (r : List (Nat × R4)) (hr : IsRow c (endK b) r) :
    hdrL c = (1, x) ∧ entB c = r.foldl recStep (entB b) ∧ endK c = endK b + sumZ r := by
  obtain ⟨hw, hf⟩ := live_first h
  have he := live_end h
  have hrow := (IsRow.agree hl (isRow_rowL b) (endK b) r (by rw [endK_sum]; omega) hag hr).eq
  have hc : hdrL c = (1, x) := by
    have h2 : firstL c = ⟨20, 1, headP x⟩ := by
      rw [← hf]; symm
      exact firstL_agree hl fun j hj => hag j (by rw [hf] at hj; simp only at hj; omega)
    have hw2 : writtenN c ≠ 0 := by
      intro e
      have : rowAt 0 c = [] := rowAt_end 0 c (by omega)
      rw [← hrow, live_row h] at this
      cases this
    unfold hdrL atL
    rw [if_neg hw2, h2]
    simp only [numL_headP]
    rfl
  refine ⟨hc, ?_, ?_⟩
  · have h3 : rowL c = rowL b ++ r := hrow.symm
    rw [live_row hc, live_row h, List.cons_append] at h3
    have h4 := (List.cons.inj h3).2
    unfold entB
    rw [← entL_shift 20 (rowL (c.drop 20)), h4]
    unfold entL
    rw [List.foldl_append]
    have := entL_shift 20 (rowL (b.drop 20))
    unfold entL at this
    rw [this]
  · rw [endK_sum, endK_sum]
    have h3 : rowL c = rowL b ++ r := hrow.symm
    rw [h3, sumZ_append]

theorem wt_le_sum (l : List (Nat × R4)) (h : ∀ x ∈ l, x.2.kind = 1 → x.2.size = sizeN x.2.pay.length) : wtL (entL l) ≤ sumZ l := by
  have : ∀ (l : List (Nat × R4)) (es : List Ent), (∀ x ∈ l, x.2.kind = 1 → x.2.size = sizeN x.2.pay.length) → wtL (l.foldl recStep es) ≤ wtL es + sumZ l := by
    intro l; induction l with
    | nil => exact fun es _ => Nat.le_refl _
    | cons x r ih =>
      intro es h
      have h1 := ih (recStep es x) (fun y hy => h y (by simp [hy]))
      have h2 : wtL (recStep es x) ≤ wtL es + x.2.size := by
        unfold recStep; split
        · rename_i hk; rw [h x (by simp) hk]; exact told_wt _ _
        · omega
      rw [List.foldl_cons, sumZ_cons]; omega
  have h1 := this l [] h
  simpa [wtL, entL] using h1

theorem firstL_sizes (b : List UInt8) (h : (firstL b).kind = 1) : (firstL b).size = sizeN (firstL b).pay.length := by
  unfold firstL at h ⊢
  cases hh : headLen b with
  | none => rw [hh] at h; simp at h
  | some n =>
    rw [hh] at h
    simp only at h ⊢
    by_cases hlt : b.length < sizeN n
    · rw [if_pos hlt] at h; simp at h
    rw [if_neg hlt] at h ⊢
    by_cases he : b.take (sizeN n) = recB ((b.drop 4).take n)
    · rw [if_pos he]
      simp only
      congr 1
      have := fillN_ge n
      rw [List.length_take, List.length_drop]; unfold sizeN at hlt; omega
    · rw [if_neg he] at h; simp at h

theorem IsRow.sizes {b : List UInt8} {a : Nat} {l : List (Nat × R4)} (h : IsRow b a l) : ∀ x ∈ l, x.2.kind = 1 → x.2.size = sizeN x.2.pay.length := by
  induction h with
  | done a h => intro x hx; simp at hx
  | more a h l hl ih =>
    intro x hx hk
    rcases List.mem_cons.1 hx with rfl | hx
    · exact firstL_sizes _ hk
    · exact ih x hx hk

/-- The entries of a live sector have room. -/
theorem live_room {b : List UInt8} {x : BitVec 32} (h : hdrL b = (1, x)) (hb : b.length = 256) : wtL (entB b) ≤ 236 ∧ 20 ≤ endK b ∧ endK b ≤ 256 := by
  have h1 := wt_le_sum (rowL (b.drop 20)) (isRow_rowL _).sizes
  have h2 := live_end h
  have h3 := endK_le b
  unfold entB
  omega

/-! ### entries one behind the other -/
def payE (e : Ent) : List UInt8 := payL 1 e.1 e.2
def itemE (e : Ent) : List UInt8 × R4 := recItem (payE e)
theorem payE_size (e : Ent) : sizeN (payE e).length = wE e := by unfold payE wE; rw [payL_length]
theorem payE_le {e : Ent} (h : OkE e) : (payE e).length ≤ 200 := by unfold payE; rw [payL_length]; have := h.k16; have := h.v64; omega

theorem ins_last {α : Type} (x : List UInt8 × α) : ∀ l : List (List UInt8 × α), Rise (l ++ [x]) → insK x l = l ++ [x]
  | [], _ => rfl
  | y :: r, h => by
    have h' : Rise (y :: (r ++ [x])) := h
    obtain ⟨h1, h2⟩ := List.pairwise_cons.1 h'
    have hx := h1 x (by simp)
    unfold insK
    rw [if_neg (by rw [before_asym hx]; simp), ins_last x r h2]
    rfl

theorem put_last {α : Type} (k : List UInt8) (v : α) (l : List (List UInt8 × α)) (h : Rise (l ++ [(k, v)])) : putK k v l = l ++ [(k, v)] := by
  unfold putK
  have h1 : getK k l = none := get_none.2 fun y hy e => by
    have := (List.pairwise_append.1 h).2.2 y hy (k, v) (by simp)
    rw [e] at this
    exact before_ne this rfl
  rw [del_none h1, ins_last _ _ h]

theorem entL_items (a : Nat) : ∀ (es pre : List Ent), Good (pre ++ es) → (rowI a (es.map itemE)).foldl recStep pre = pre ++ es := by
  intro es
  induction es generalizing a with
  | nil => intro pre _; simp [rowI]
  | cons e r ih =>
    intro pre hg
    have e1 : pre ++ e :: r = (pre ++ [e]) ++ r := by simp
    rw [e1] at hg ⊢
    rw [List.map_cons]
    show ((a, (itemE e).2) :: rowI _ (r.map itemE)).foldl recStep pre = _
    rw [List.foldl_cons]
    have h1 : recStep pre (a, (itemE e).2) = pre ++ [e] := by
      show (if (1 : UInt8) = 1 then toldL (payE e) pre else pre) = _
      rw [if_pos rfl]
      unfold payE
      rw [told_set (hg.ok e (by simp))]
      exact put_last _ _ _ ((List.pairwise_append.1 hg.rise).1)
    rw [h1]
    exact ih _ _ hg

theorem sumI_items (es : List Ent) : sumI (es.map itemE) = wtL es := by
  induction es with
  | nil => rfl
  | cons e r ih =>
    unfold sumI at ih ⊢
    simp only [List.map_cons, List.sum_cons, wtL_cons]
    rw [ih]
    show sizeN (payE e).length + _ = _
    rw [payE_size]
end Go.Proofs.YtlnmbfddhdjioaaGreat

namespace Go.Proofs.YtlnmbfddhdjioaaGreat

/-- A record written, all three programs armed. -/
theorem write_roomArmed {s : FS} (a : Nat) (p : List UInt8) (hp : p.length ≤ 4080) (hd : s.down = false) (hu : s.armed = true) (hl : 3 ≤ s.left) (h4 : a % 4 = 0) (hle : a + sizeN p.length ≤ s.bs.length) (hb : room s.bs a (sizeN p.length)) :
    s.write a p = ({ s with bs := put s.bs a (recB p), left := s.left - 1 - 1 - 1 }, 0) := by
  have hf := fillN_mod p.length
  have h0 : (headB p.length).length = 4 := headB_length _
  have h1 : (bodyB p).length = fillN p.length + 4 := bodyB_length p
  have hsz : sizeN p.length = 12 + fillN p.length := rfl
  have hr : s.readErr a (sizeN p.length) = 0 := by
    unfold FS.readErr
    rw [hd, if_neg (by simp), if_pos (by unfold FS.has; omega)]
  have hne0 : headB p.length ≠ [] := by intro e; rw [e] at h0; cases h0
  have hne1 : bodyB p ≠ [] := by intro e; rw [e] at h1; simp at h1
  have l1 : (put s.bs a (headB p.length)).length = s.bs.length := put_length _ _ _ (by omega)
  have b1 : room (put s.bs a (headB p.length)) (a + 4) (bodyB p).length := room_put (hb.mono _ _ (by omega) (by omega)) (by omega) (by omega)
  have l2 : (put s.bs a (headB p.length ++ bodyB p)).length = s.bs.length := put_length _ _ _ (by simp [h0]; omega)
  have b2 : room (put s.bs a (headB p.length ++ bodyB p)) (a + 4 + (bodyB p).length) 4 := room_put (hb.mono _ _ (by omega) (by omega)) (by simp [h0]; omega) (by simp [h0]; omega)
  unfold FS.write
  rw [if_neg (by omega), if_neg (fun h => h.2 hr)]
  have e1 := program_roomArmed (s := s) a (headB p.length) hd hu (by omega) h4 (by rw [h0]) hne0 (by omega) (hb.mono _ _ (by omega) (by omega))
  have e2 := program_roomArmed (s := { s with bs := put s.bs a (headB p.length), left := s.left - 1 }) (a + 4) (bodyB p) hd hu (by simp only; omega) (by omega) (by omega) hne1 (by simp only [l1]; omega) b1
  obtain ⟨q1, q2⟩ := puts3 s.bs a p (bodyB p) [0, 0, 0, 0] rfl (by decide) hle
  have e3 := program_roomArmed (s := { s with bs := put s.bs a (headB p.length ++ bodyB p), left := s.left - 1 - 1 }) (a + 4 + (bodyB p).length) [0, 0, 0, 0] hd hu (by simp only; omega) (by omega) (by rfl) (by simp) (by simp only [l2, List.length_cons, List.length_nil]; omega) b2
  simp only [stepP]
  rw [e1, if_neg (by simp)]
  simp only [h0]
  rw [show ((a : Int) + ((4 : Nat) : Int)) = ((a + 4 : Nat) : Int) by omega, e2, if_neg (by simp)]
  simp only
  rw [q1, show (((a + 4 : Nat) : Int) + (((bodyB p).length : Nat) : Int)) = ((a + 4 + (bodyB p).length : Nat) : Int) by omega, e3, if_neg (by simp)]
  simp only [q2]
  rfl

/-- What an operation leaves: done, or torn. -/
structure Went (s s' : FS) (e : Int) : Prop where
  len : s'.bs.length = s.bs.length
  wl : s'.wear.length = s.wear.length
  left : 0 ≤ s'.left
  err : e = 0 ∨ e = 12
  ok : e = 0 → s'.down = false ∧ s'.armed = s.armed
  torn : e = 12 → s'.down = true ∧ s.armed = true
  mask : s'.mask = s.mask ∨ s'.mask = []

theorem write_arm {s : FS} (a : Nat) (p : List UInt8) (hp : p.length ≤ 4080) (hd : s.down = false) (h4 : a % 4 = 0) (hle : a + sizeN p.length ≤ s.bs.length) (hb : room s.bs a (sizeN p.length)) (hn : 0 ≤ s.left) :
    ∃ (s' : FS) (e : Int), s.write a p = (s', e) ∧ Went s s' e ∧ s'.wear = s.wear ∧ ((e = 0 ∧ s'.bs = put s.bs a (recB p)) ∨ (e = 12 ∧ ∃ k m, k < 3 ∧ s'.bs = put s.bs a (tornBytes k m p))) := by
  have hlr : (put s.bs a (recB p)).length = s.bs.length := put_length _ _ _ (by rw [recB_length]; exact hle)
  cases ha : s.armed with
  | false =>
    exact ⟨_, 0, write_room a p hp hd ha h4 hle hb, ⟨hlr, rfl, hn, .inl rfl, fun _ => ⟨hd, rfl⟩, (fun h => by cases h), .inl rfl⟩, rfl, .inl ⟨rfl, rfl⟩⟩
  | true =>
    by_cases h3 : 3 ≤ s.left
    · exact ⟨_, 0, write_roomArmed a p hp hd ha h3 h4 hle hb, ⟨hlr, rfl, by simp only; omega, .inl rfl, fun _ => ⟨hd, rfl⟩, (fun h => by cases h), .inl rfl⟩, rfl, .inl ⟨rfl, rfl⟩⟩
    · have hk : s.left = ((s.left.toNat : Nat) : Int) := by omega
      have hk3 : s.left.toNat < 3 := by omega
      refine ⟨_, 12, write_roomTorn a p s.left.toNat hk3 hp hd ha hk h4 hle hb, ⟨?_, rfl, by simp, .inr rfl, (fun h => by cases h), fun _ => ⟨rfl, ha⟩, .inr rfl⟩, rfl, .inr ⟨rfl, _, s.mask, hk3, rfl⟩⟩
      refine put_length _ _ _ ?_
      have h1 := bodyB_length p
      have h0 : (headB p.length).length = 4 := headB_length _
      have hsz : sizeN p.length = 12 + fillN p.length := rfl
      have : ∀ k, (tornBytes k s.mask p).length ≤ sizeN p.length := by
        intro k
        unfold tornBytes
        split
        · rw [tornL_length]; omega
        · rw [List.length_append, tornL_length]; omega
        · rw [List.length_append, List.length_append, tornL_length]; simp only [List.length_cons, List.length_nil]; omega
      have := this s.left.toNat
      omega

theorem clear_arm {s : FS} (k : Nat) (hk : k < s.wear.length) (hd : s.down = false) (hn : 0 ≤ s.left) :
    ∃ (s' : FS) (e : Int), s.clear k = (s', e) ∧ Went s s' e ∧ (∀ j, j ≠ k → sec s'.bs j = sec s.bs j) ∧ (e = 0 → blank (sec s'.bs k)) ∧
      ((hdrL (sec s.bs k)).1 = 0 ∧ e = 0 ∧ s'.wear = s.wear ∨ (hdrL (sec s.bs k)).1 ≠ 0 ∧ s'.wear = s.wear.set k (s.wear.getD k 0 + 1)) := by
  by_cases hh : (hdrL (sec s.bs k)).1 = 0
  · exact ⟨s, 0, clear_free k hk hd hh, ⟨rfl, rfl, hn, .inl rfl, fun _ => ⟨hd, rfl⟩, (fun h => by cases h), .inl rfl⟩, fun _ _ => rfl, fun _ => hdrL_kind0 hh, .inl ⟨hh, rfl, rfl⟩⟩
  · have hcl : s.clear k = ({ s with wear := s.wear.set k (s.wear.getD k 0 + 1) } : FS).let (k * 256) 256 gSet := by
      unfold FS.clear
      rw [if_neg (by simp [hd]), if_neg (by omega), Int.toNat_natCast, if_neg hh, FS.erase_let hd ⟨by omega, by omega⟩, Int.toNat_natCast]
    rw [hcl]
    unfold FS.let
    split
    · rename_i hc
      exact ⟨_, 12, rfl, ⟨by simp only [span_length], List.length_set, by simp, .inr rfl, (fun h => by cases h), fun _ => ⟨rfl, hc.1⟩, .inr rfl⟩, fun j hj => by dsimp only; exact sec_span_other _ _ _ _ hj, (fun h => by cases h), .inr ⟨hh, rfl⟩⟩
    · rename_i hc
      simp only at hc
      refine ⟨_, 0, rfl, ⟨by simp only [span_length], List.length_set, ?_, .inl rfl, fun _ => ⟨hd, rfl⟩, (fun h => by cases h), .inl rfl⟩, fun j hj => by dsimp only; exact sec_span_other _ _ _ _ hj, fun _ => by dsimp only; exact sec_erased _ _, .inr ⟨hh, rfl⟩⟩
      dsimp only
      split
      · rename_i ha
        have : s.left ≠ 0 := fun e => hc ⟨ha, e⟩
        omega
      · exact hn

set_option maxRecDepth 10000 in
theorem sec_put_in (bs : List UInt8) (k E : Nat) (l : List UInt8) (hE : E + l.length ≤ 256) (h : k * 256 + 256 ≤ bs.length) : sec (put bs (k * 256 + E) l) k = put (sec bs k) E l := by
  have hsl := sec_length bs k h
  apply List.ext_getElem?
  intro i
  have h1 : k * 256 + E + l.length ≤ bs.length := by omega
  have h2 : E + l.length ≤ (sec bs k).length := by omega
  rw [sec_get, put_get (sec bs k) E l h2, put_get bs (k * 256 + E) l h1, sec_get]
  by_cases hi : i < 256
  · rw [if_pos hi, if_pos hi]
    by_cases hq : E ≤ i ∧ i < E + l.length
    · rw [if_pos (by omega), if_pos hq]; congr 1; omega
    · rw [if_neg (by omega), if_neg hq]
  · rw [if_neg hi, if_neg hi, if_neg (by omega)]

set_option maxRecDepth 10000 in
theorem sec_put_out (bs : List UInt8) (k j E : Nat) (l : List UInt8) (hj : j ≠ k) (hE : E + l.length ≤ 256) (h : k * 256 + 256 ≤ bs.length) : sec (put bs (k * 256 + E) l) j = sec bs j := by
  apply sec_ext
  intro i hi
  have h1 : k * 256 + E + l.length ≤ bs.length := by omega
  rw [put_get bs (k * 256 + E) l h1, if_neg (by omega)]

theorem room_sec {bs : List UInt8} {k E n : Nat} (hb : blank ((sec bs k).drop E)) (hE : E + n ≤ 256) (h : k * 256 + 256 ≤ bs.length) : room bs (k * 256 + E) n := by
  intro j h1 h2
  have hg := sec_get bs k (j - k * 256)
  rw [if_pos (by omega), show k * 256 + (j - k * 256) = j by omega] at hg
  have hlt : j < bs.length := by omega
  obtain ⟨c, hc⟩ : ∃ c, bs[j]? = some c := ⟨_, List.getElem?_eq_getElem hlt⟩
  rw [hc] at hg
  have : c = 255 := hb c (List.mem_iff_getElem?.2 ⟨j - k * 256 - E, by rw [List.getElem?_drop, show E + (j - k * 256 - E) = j - k * 256 by omega]; exact hg⟩)
  rw [hc, this]

theorem torn_len {k : Nat} {m p : List UInt8} {xs : List (List UInt8 × R4)} {pad : Nat} (he : tornBytes k m p ++ List.replicate pad 255 = itemsL xs ++ List.replicate (if xs = [] then 4 else 0) 255) (hi : ∀ x ∈ xs, IsItem x)
    (hc : xs = [] ∧ k = 0 ∨ (∃ y, xs = [(y, ⟨4, 3, []⟩)]) ∧ k = 0 ∨ (∃ y, xs = [(y, ⟨sizeN p.length, 2, []⟩)]) ∨ xs = [recItem p] ∧ 2 ≤ k) :
    (tornBytes k m p).length + pad = sumI xs + (if xs = [] then 4 else 0) ∧ sumI xs + (if xs = [] then 4 else 0) ≤ sizeN p.length := by
  have h1 := congrArg List.length he
  rw [List.length_append, List.length_append, List.length_replicate, List.length_replicate, itemsL_length xs hi] at h1
  refine ⟨h1, ?_⟩
  have hs : 12 ≤ sizeN p.length := by unfold sizeN; omega
  rcases hc with ⟨rfl, _⟩ | ⟨⟨y, rfl⟩, _⟩ | ⟨y, rfl⟩ | ⟨rfl, _⟩
  · simp [sumI]; omega
  · simp [sumI]; omega
  · simp [sumI]
  · simp [sumI, recItem]

/-- What a record that was torn has left behind all that stood there. -/
theorem torn_rows {b : List UInt8} (E : Nat) (hb : blank (b.drop E)) (k : Nat) (m p : List UInt8) (hp : p.length ≤ 4080) (hE : E + sizeN p.length ≤ b.length) :
    ∃ xs : List (List UInt8 × R4), IsRow (put b E (tornBytes k m p)) E (rowI E xs) ∧ sumZ (rowI E xs) ≤ sizeN p.length ∧
      ((∀ x ∈ xs, x.2.kind ≠ 1) ∨ xs = [recItem p]) := by
  obtain ⟨xs, pad, he, hi, hpad, hc⟩ := torn_items k m p hp
  obtain ⟨hl1, hl2⟩ := torn_len he hi hc
  refine ⟨xs, ?_, ?_, ?_⟩
  · refine isRow_items (put b E (tornBytes k m p)) (List.replicate (if xs = [] then 4 else 0) 255 ++ b.drop (E + (tornBytes k m p).length + pad)) ?_ xs E ?_ hi
    · intro c hc
      rcases List.mem_append.1 hc with hc | hc
      · exact List.eq_of_mem_replicate hc
      · rw [← List.drop_drop, ← List.drop_drop] at hc
        exact hb c (List.mem_of_mem_drop (List.mem_of_mem_drop hc))
    · rw [← List.append_assoc, ← he]
      unfold put
      rw [List.drop_append_of_le_length (by rw [List.length_take]; omega), List.drop_of_length_le (by rw [List.length_take]; omega), List.nil_append, List.append_assoc]
      congr 1
      -- the pad is blank
      have hbb : blank (b.drop (E + (tornBytes k m p).length)) := by
        rw [← List.drop_drop]; exact fun c hc => hb c (List.mem_of_mem_drop hc)
      have := List.take_append_drop pad (b.drop (E + (tornBytes k m p).length))
      rw [List.drop_drop] at this
      rw [← this]
      congr 1
      have ht : blank ((b.drop (E + (tornBytes k m p).length)).take pad) := fun c hc => hbb c (List.mem_of_mem_take hc)
      rw [blank_eq ht, List.length_take, List.length_drop]
      congr 1
      omega
  · show ((rowI E xs).map fun x => x.2.size).sum ≤ _
    rw [rowI_sum]; omega
  · rcases hc with ⟨rfl, _⟩ | ⟨⟨y, rfl⟩, _⟩ | ⟨y, rfl⟩ | ⟨rfl, _⟩
    · exact .inl fun x hx => by simp at hx
    · exact .inl fun x hx => by simp at hx; subst hx; simp
    · exact .inl fun x hx => by simp at hx; subst hx; simp
    · exact .inr rfl

theorem rec_rows {b : List UInt8} (E : Nat) (hb : blank (b.drop E)) (p : List UInt8) (hp : p.length ≤ 4080) (hE : E + sizeN p.length ≤ b.length) :
    IsRow (put b E (recB p)) E (rowI E [recItem p]) ∧ sumZ (rowI E [recItem p]) = sizeN p.length := by
  refine ⟨?_, by show ((rowI E [recItem p]).map fun x => x.2.size).sum = _; rw [rowI_sum]; simp [sumI, recItem]⟩
  refine isRow_items (put b E (recB p)) (b.drop (E + (recB p).length)) ?_ [recItem p] E ?_ (fun x hx => by simp at hx; subst hx; exact item_rec p hp)
  · rw [← List.drop_drop]; exact fun c hc => hb c (List.mem_of_mem_drop hc)
  · unfold put
    have := recB_length p
    rw [List.drop_append_of_le_length (by rw [List.length_take]; omega), List.drop_of_length_le (by rw [List.length_take]; omega), List.nil_append]
    simp [itemsL, recItem]

theorem fold_dull (xs : List (List UInt8 × R4)) (a : Nat) (es : List Ent) (h : ∀ x ∈ xs, x.2.kind ≠ 1) : (rowI a xs).foldl recStep es = es := by
  induction xs generalizing a with
  | nil => rfl
  | cons x r ih =>
    rw [rowI, List.foldl_cons]
    have : recStep es (a, x.2) = es := by unfold recStep; rw [if_neg (h x (by simp))]
    rw [this]
    exact ih _ (fun y hy => h y (by simp [hy]))

theorem fold_rec (p : List UInt8) (a : Nat) (es : List Ent) : (rowI a [recItem p]).foldl recStep es = toldL p es := by
  show recStep es (a, ⟨sizeN p.length, 1, p⟩) = _
  unfold recStep
  rw [if_pos rfl]

theorem put_agree (b : List UInt8) (E : Nat) (l : List UInt8) (h : E + l.length ≤ b.length) : ∀ j, j < E → b[j]? = (put b E l)[j]? := fun j hj => by
  rw [put_get _ _ _ h, if_neg (by omega)]
end Go.Proofs.YtlnmbfddhdjioaaGreat

namespace Go.Proofs.YtlnmbfddhdjioaaGreat

/-! ### the newest head -/
def IsTop (bs : List UInt8) (first n K : Nat) (y : BitVec 32) : Prop :=
  first ≤ K ∧ K < first + n ∧ hdrL (sec bs K) = (1, y) ∧ ∀ (j : Nat) (x : BitVec 32), first ≤ j → j < first + n → hdrL (sec bs j) = (1, x) → x.toNat ≤ y.toNat ∧ (j < K → x.toNat < y.toNat)

def TopOf (bs : List UInt8) (first n : Nat) : Option Hdr → Prop
  | none => ∀ (j : Nat) (x : BitVec 32), first ≤ j → j < first + n → hdrL (sec bs j) ≠ (1, x)
  | some c => ∃ (K : Nat) (y : BitVec 32), c = ⟨(K : Int), 1, y⟩ ∧ IsTop bs first n K y

theorem top_newest (bs : List UInt8) (first : Nat) : ∀ n, TopOf bs first n (newestL (lookL bs first n))
  | 0 => fun j x h1 h2 => by omega
  | n + 1 => by
    have ih := top_newest bs first n
    have e : newestL (lookL bs first (n + 1)) = bestStep liveH newerH (newestL (lookL bs first n)) (hdrAt bs (first + n)) := by
      unfold newestL; rw [lookL_succ, bestL_snoc]
    rw [e]
    revert ih
    generalize newestL (lookL bs first n) = acc
    intro ih
    unfold bestStep
    by_cases hlive : ∃ y, hdrL (sec bs (first + n)) = (1, y)
    · obtain ⟨y, hy⟩ := hlive
      have hh : hdrAt bs (first + n) = ⟨((first + n : Nat) : Int), 1, y⟩ := by unfold hdrAt hdrOf; rw [hy]
      rw [hh]
      cases acc with
      | none =>
        rw [if_pos ⟨rfl, fun c hc => by cases hc⟩]
        refine ⟨first + n, y, rfl, by omega, by omega, hy, fun j x h1 h2 hx => ?_⟩
        by_cases ej : j = first + n
        · subst ej; rw [hy] at hx; cases hx; exact ⟨Nat.le_refl _, fun h => by omega⟩
        · exact absurd hx (ih j x h1 (by omega))
      | some c =>
        obtain ⟨K, z, rfl, k1, k2, k3, k4⟩ := ih
        by_cases hnew : z.toNat < y.toNat
        · rw [if_pos ⟨rfl, fun c hc => by cases hc; unfold newerH; simpa using hnew⟩]
          refine ⟨first + n, y, rfl, by omega, by omega, hy, fun j x h1 h2 hx => ?_⟩
          by_cases ej : j = first + n
          · subst ej; rw [hy] at hx; cases hx; exact ⟨Nat.le_refl _, fun h => by omega⟩
          · have := k4 j x h1 (by omega) hx; omega
        · rw [if_neg (fun h => hnew (by have := h.2 _ rfl; unfold newerH at this; simpa using this))]
          refine ⟨K, z, rfl, k1, by omega, k3, fun j x h1 h2 hx => ?_⟩
          by_cases ej : j = first + n
          · subst ej; rw [hy] at hx; cases hx; omega
          · exact k4 j x h1 (by omega) hx
    · have hk : liveH (hdrAt bs (first + n)) = false := by
        unfold liveH hdrAt hdrOf
        rcases hdrL_kinds (sec bs (first + n)) with q | ⟨x, q⟩ | q
        · rw [q]; rfl
        · exact absurd ⟨x, q⟩ hlive
        · rw [q]; rfl
      rw [if_neg (fun h => by rw [hk] at h; cases h.1)]
      cases acc with
      | none =>
        intro j x h1 h2 hx
        by_cases ej : j = first + n
        · subst ej; exact hlive ⟨x, hx⟩
        · exact ih j x h1 (by omega) hx
      | some c =>
        obtain ⟨K, z, rfl, k1, k2, k3, k4⟩ := ih
        refine ⟨K, z, rfl, k1, by omega, k3, fun j x h1 h2 hx => ?_⟩
        by_cases ej : j = first + n
        · subst ej; exact absurd ⟨x, hx⟩ hlive
        · exact k4 j x h1 (by omega) hx

theorem top_iff {bs : List UInt8} {first n K : Nat} {y : BitVec 32} : newestL (lookL bs first n) = some ⟨(K : Int), 1, y⟩ ↔ IsTop bs first n K y := by
  have h := top_newest bs first n
  constructor
  · intro e
    rw [e] at h
    obtain ⟨K', y', he, ht⟩ := h
    simp only [Hdr.mk.injEq, true_and] at he
    obtain ⟨h1, rfl⟩ := he
    have : K = K' := by omega
    subst this
    exact ht
  · intro ht
    cases hn : newestL (lookL bs first n) with
    | none => rw [hn] at h; exact absurd ht.2.2.1 (h K y ht.1 ht.2.1)
    | some c =>
      rw [hn] at h
      obtain ⟨K', y', rfl, h'⟩ := h
      have h1 := ht.2.2.2 K' y' h'.1 h'.2.1 h'.2.2.1
      have h2 := h'.2.2.2 K y ht.1 ht.2.1 ht.2.2.1
      have : K = K' := by omega
      subst this
      have := ht.2.2.1.symm.trans h'.2.2.1
      cases this
      rfl

/-! ### a flash with a ring in use -/
structure Cfg (N first n k i t : Nat) (es : List Ent) (s : FS) : Prop where
  len : s.bs.length = 256 * N
  wl : s.wear.length = N
  down : s.down = false
  left : 0 ≤ s.left
  fit : first + n ≤ N
  n3 : 3 ≤ n
  new : newestL (lookL s.bs first n) = some ⟨(k : Int), 1, BitVec.ofNat 32 i⟩
  ents : entB (sec s.bs k) = es
  wears : ∀ x ∈ s.wear, 0 ≤ x ∧ x ≤ t

theorem Cfg.top {N first n k i t : Nat} {es : List Ent} {s : FS} (h : Cfg N first n k i t es s) : IsTop s.bs first n k (BitVec.ofNat 32 i) := top_iff.1 h.new
theorem Cfg.good {N first n k i t : Nat} {es : List Ent} {s : FS} (h : Cfg N first n k i t es s) : Good es := h.ents ▸ good_entB _
theorem Cfg.secLen {N first n k i t : Nat} {es : List Ent} {s : FS} (h : Cfg N first n k i t es s) {j : Nat} (hj : j < N) : (sec s.bs j).length = 256 := sec_length _ _ (by rw [h.len]; omega)
theorem Cfg.room {N first n k i t : Nat} {es : List Ent} {s : FS} (h : Cfg N first n k i t es s) : wtL es ≤ 236 ∧ 20 ≤ endK (sec s.bs k) ∧ endK (sec s.bs k) ≤ 256 := by
  have ht := h.top
  have := live_room ht.2.2.1 (h.secLen (by have := ht.2.1; have := h.fit; omega))
  rwa [h.ents] at this
theorem Cfg.up {N first n k i t : Nat} {es : List Ent} {s : FS} (h : Cfg N first n k i t es s) : Cfg N first n k i t es s.up :=
  ⟨h.len, h.wl, rfl, Int.le_refl _, h.fit, h.n3, h.new, h.ents, h.wears⟩
theorem Cfg.arm {N first n k i t : Nat} {es : List Ent} {s : FS} (h : Cfg N first n k i t es s) (j : Nat) (m : List UInt8) : Cfg N first n k i t es (s.arm j m) :=
  ⟨h.len, h.wl, rfl, Int.natCast_nonneg _, h.fit, h.n3, h.new, h.ents, h.wears⟩
theorem Cfg.worn {N first n k i t u : Nat} {es : List Ent} {s : FS} (h : Cfg N first n k i t es s) (hu : t ≤ u) : Cfg N first n k i u es s :=
  { h with wears := fun x hx => by have := h.wears x hx; omega }

theorem lookL_newest_other {bs cs : List UInt8} {first n k E : Nat} {l : List UInt8} {x : BitVec 32} (hb : cs = put bs (k * 256 + E) l) (hl : E + l.length ≤ 256) (hk : k * 256 + 256 ≤ bs.length) (h1 : hdrL (sec cs k) = (1, x)) (h2 : hdrL (sec bs k) = (1, x)) : newestL (lookL cs first n) = newestL (lookL bs first n) := by
  congr 1
  unfold lookL
  apply List.map_congr_left
  intro j _
  unfold hdrAt hdrOf
  by_cases e : first + j = k
  · rw [e, h1, h2]
  · rw [hb, sec_put_out _ _ _ _ _ e hl hk]

set_option maxRecDepth 10000 in
/-- An append: the record is there, or, torn, it may not be. -/
theorem Cfg.append {N first n k i t : Nat} {es : List Ent} {s : FS} (h : Cfg N first n k i t es s) (p : List UInt8) (hp : p.length ≤ 200) (hfit : endK (sec s.bs k) + sizeN p.length ≤ 256) :
    ∃ (s' : FS) (e : Int), s.write ((k * 256 + endK (sec s.bs k) : Nat) : Int) p = (s', e) ∧ Went s s' e ∧ s'.wear = s.wear ∧ newestL (lookL s'.bs first n) = some ⟨(k : Int), 1, BitVec.ofNat 32 i⟩ ∧
      (entB (sec s'.bs k) = toldL p es ∨ e = 12 ∧ entB (sec s'.bs k) = es) ∧ (e = 0 → endK (sec s'.bs k) = endK (sec s.bs k) + sizeN p.length ∧ s'.bs = put s.bs (k * 256 + endK (sec s.bs k)) (recB p)) := by
  have ht := h.top
  have hf := h.fit
  obtain ⟨hk1, hk2, hk3, hk4⟩ := ht
  have hkN : k < N := by omega
  have hkl : k * 256 + 256 ≤ s.bs.length := by rw [h.len]; omega
  have hsl := h.secLen hkN
  have hr := h.room
  have hm4 := endK_mod (sec s.bs k) (by rw [hsl])
  have hbl := endK_blank (sec s.bs k)
  obtain ⟨E, hE⟩ : ∃ E, E = endK (sec s.bs k) := ⟨_, rfl⟩
  rw [← hE] at hfit hr hm4 hbl ⊢
  obtain ⟨s', e, hw, went, hwe, hc⟩ := write_arm (s := s) (k * 256 + E) p (by omega) h.down (by omega) (by omega) (room_sec hbl hfit hkl) h.left
  refine ⟨s', e, hw, went, hwe, ?_⟩
  -- whatever stands there, it stands behind
  have key : ∀ l : List UInt8, s'.bs = put s.bs (k * 256 + E) l → E + l.length ≤ 256 → ∀ r, IsRow (put (sec s.bs k) E l) E r → newestL (lookL s'.bs first n) = some ⟨(k : Int), 1, BitVec.ofNat 32 i⟩ ∧ entB (sec s'.bs k) = r.foldl recStep es ∧ endK (sec s'.bs k) = E + sumZ r := by
    intro l hb hl r hr
    have hsec : sec s'.bs k = put (sec s.bs k) E l := by rw [hb]; exact sec_put_in _ _ _ _ hl hkl
    have hpl : (put (sec s.bs k) E l).length = 256 := by rw [put_length _ _ _ (by omega), hsl]
    obtain ⟨m1, m2, m3⟩ := live_more (c := put (sec s.bs k) E l) hk3 (by rw [hsl, hpl]) (fun j hj => put_agree _ _ _ (by omega) j (by omega)) r (by rw [← hE]; exact hr)
    rw [← hsec] at m1 m2 m3
    rw [h.ents] at m2
    rw [← hE] at m3
    refine ⟨?_, m2, m3⟩
    rw [lookL_newest_other hb hl hkl m1 hk3]
    exact h.new
  rcases hc with ⟨rfl, hb⟩ | ⟨rfl, q, m, hq, hb⟩
  · have hrr := rec_rows (b := sec s.bs k) E hbl p (by omega) (by omega)
    obtain ⟨a1, a2, a3⟩ := key (recB p) hb (by rw [recB_length]; omega) _ hrr.1
    rw [fold_rec] at a2
    exact ⟨a1, .inl a2, fun _ => ⟨by rw [a3, hrr.2], hb⟩⟩
  · obtain ⟨xs, x1, x2, x3⟩ := torn_rows (b := sec s.bs k) E hbl q m p (by omega) (by omega)
    have hl : (tornBytes q m p).length ≤ sizeN p.length := by
      have h1 := bodyB_length p
      have h0 : (headB p.length).length = 4 := headB_length _
      have hsz : sizeN p.length = 12 + fillN p.length := rfl
      unfold tornBytes
      split
      · rw [tornL_length]; omega
      · rw [List.length_append, tornL_length]; omega
      · rw [List.length_append, List.length_append, tornL_length]; simp only [List.length_cons, List.length_nil]; omega
    obtain ⟨a1, a2, _⟩ := key _ hb (by omega) _ x1
    refine ⟨a1, ?_, fun h => by cases h⟩
    rcases x3 with x3 | rfl
    · rw [fold_dull _ _ _ x3] at a2; exact .inr ⟨rfl, a2⟩
    · rw [fold_rec] at a2; exact .inl a2
end Go.Proofs.YtlnmbfddhdjioaaGreat

namespace Go.Proofs.YtlnmbfddhdjioaaGreat

def FS.rows (s : FS) (a : Nat) : List Ent → FS × Int
  | [] => (s, 0)
  | e :: r => if (s.write (a : Int) (payE e)).2 ≠ 0 then s.write (a : Int) (payE e) else FS.rows (s.write (a : Int) (payE e)).1 (a + wE e) r

theorem Went.refl {s : FS} (hd : s.down = false) (hl : 0 ≤ s.left) : Went s s 0 := ⟨rfl, rfl, hl, .inl rfl, fun _ => ⟨hd, rfl⟩, (fun h => by cases h), .inl rfl⟩
theorem Went.then {s s1 s2 : FS} {e : Int} (h1 : Went s s1 0) (h2 : Went s1 s2 e) : Went s s2 e :=
  ⟨h2.len.trans h1.len, h2.wl.trans h1.wl, h2.left, h2.err, fun h => ⟨(h2.ok h).1, (h2.ok h).2.trans (h1.ok rfl).2⟩, fun h => ⟨(h2.torn h).1, (h1.ok rfl).2 ▸ (h2.torn h).2⟩, by
    rcases h2.mask with h | h
    · rw [h]; exact h1.mask
    · exact .inr h⟩

theorem tornBytes_le (k : Nat) (m p : List UInt8) : (tornBytes k m p).length ≤ sizeN p.length := by
  have h1 := bodyB_length p
  have h0 : (headB p.length).length = 4 := headB_length _
  have hsz : sizeN p.length = 12 + fillN p.length := rfl
  unfold tornBytes
  split
  · rw [tornL_length]; omega
  · rw [List.length_append, tornL_length]; omega
  · rw [List.length_append, List.length_append, tornL_length]; simp only [List.length_cons, List.length_nil]; omega

theorem itemsE_len (es : List Ent) (h : ∀ e ∈ es, OkE e) : (itemsL (es.map itemE)).length = wtL es := by
  rw [itemsL_length _ (fun x hx => by obtain ⟨e, he, rfl⟩ := List.mem_map.1 hx; exact item_rec _ (by have := payE_le (h e he); omega)), sumI_items]

set_option maxRecDepth 10000 in
theorem rows_arm : ∀ (es : List Ent) (s : FS) (p E : Nat), (∀ e ∈ es, OkE e) → s.down = false → 0 ≤ s.left → p * 256 + 256 ≤ s.bs.length → E % 4 = 0 → 20 ≤ E → E + wtL es ≤ 256 → blank ((sec s.bs p).drop E) →
    ∃ (s' : FS) (e : Int), s.rows (p * 256 + E) es = (s', e) ∧ Went s s' e ∧ s'.wear = s.wear ∧ (∀ j, j ≠ p → sec s'.bs j = sec s.bs j) ∧ (∀ j, j < 20 → (sec s'.bs p)[j]? = (sec s.bs p)[j]?) ∧
      (e = 0 → sec s'.bs p = put (sec s.bs p) E (itemsL (es.map itemE)))
  | [], s, p, E, _, hd, hl, hp, _, _, _, _ => by
    refine ⟨s, 0, rfl, Went.refl hd hl, rfl, fun _ _ => rfl, fun _ _ => rfl, fun _ => ?_⟩
    unfold put itemsL
    simp
  | e :: r, s, p, E, hok, hd, hl, hp, h4, h20, hE, hb => by
    have hwt := wtL_cons e r
    have hpl := payE_size e
    have hple := payE_le (hok e (by simp))
    have hsl := sec_length _ _ hp
    obtain ⟨s1, e1, hw, went, hwe, hc⟩ := write_arm (s := s) (p * 256 + E) (payE e) (by omega) hd (by omega) (by omega) (room_sec hb (by omega) hp) hl
    unfold FS.rows
    rw [hw]
    simp only
    rcases hc with ⟨rfl, hbs⟩ | ⟨rfl, q, m, hq, hbs⟩
    · rw [if_neg (by simp)]
      have hrl : (recB (payE e)).length = wE e := by rw [recB_length, hpl]
      have hsec : sec s1.bs p = put (sec s.bs p) E (recB (payE e)) := by rw [hbs]; exact sec_put_in _ _ _ _ (by omega) hp
      have hbl : blank ((sec s1.bs p).drop (E + wE e)) := by
        rw [hsec, ← hrl]
        exact blank_drop_put (by omega) hb
      obtain ⟨s2, e2, k1, k2, k3, k4, k5, k6⟩ := rows_arm r s1 p (E + wE e) (fun x hx => hok x (by simp [hx])) (went.ok rfl).1 went.left (by rw [went.len]; exact hp) (by have := wE_mod e; omega) (by omega) (by omega) hbl
      refine ⟨s2, e2, by rw [← k1, Nat.add_assoc], went.then k2, k3.trans hwe, fun j hj => ?_, fun j hj => ?_, fun h => ?_⟩
      · rw [k4 j hj, hbs]; exact sec_put_out _ _ _ _ _ hj (by omega) hp
      · rw [k5 j hj, hsec, ← put_agree _ _ _ (by omega) j (by omega)]
      · rw [k6 h, hsec]
        have hil := itemsE_len r (fun x hx => hok x (by simp [hx]))
        have : itemsL ((e :: r).map itemE) = recB (payE e) ++ itemsL (r.map itemE) := by unfold itemsL; rw [List.map_cons, List.flatMap_cons]; rfl
        rw [this, ← hrl]
        exact put_put _ _ _ _ (by omega)
    · rw [if_pos (by simp)]
      have htl := tornBytes_le q m (payE e)
      have hsec : sec s1.bs p = put (sec s.bs p) E (tornBytes q m (payE e)) := by rw [hbs]; exact sec_put_in _ _ _ _ (by omega) hp
      refine ⟨s1, 12, rfl, went, hwe, fun j hj => ?_, fun j hj => ?_, fun h => by cases h⟩
      · rw [hbs]; exact sec_put_out _ _ _ _ _ hj (by omega) hp
      · rw [hsec, ← put_agree _ _ _ (by omega) j (by omega)]

/-- A sector whose first bytes are blank has no live head. -/
theorem blank_head {b : List UInt8} (h : ∀ j, j < 4 → b[j]? = some 255) : ∀ y, hdrL b ≠ (1, y) := by
  intro y hy
  obtain ⟨_, hf⟩ := live_first hy
  have hh : headLen b = none := by
    rw [← headLen_take b]
    have : b.take 4 = [255, 255, 255, 255] := by
      apply List.ext_getElem?
      intro j
      rw [List.getElem?_take]
      match j with
      | 0 => rw [if_pos (by omega), h 0 (by omega)]; rfl
      | 1 => rw [if_pos (by omega), h 1 (by omega)]; rfl
      | 2 => rw [if_pos (by omega), h 2 (by omega)]; rfl
      | 3 => rw [if_pos (by omega), h 3 (by omega)]; rfl
      | j + 4 => rw [if_neg (by omega)]; rfl
    rw [this]; decide
  unfold firstL at hf
  rw [hh] at hf
  have hk := congrArg R4.kind hf
  simp at hk

/-- What a sector is whose head is written at last: with all entries behind it. -/
theorem sector_full (x : BitVec 32) (es : List Ent) (hg : Good es) (t : List UInt8) (ht : blank t) : hdrL (recB (headP x) ++ (itemsL (es.map itemE) ++ t)) = (1, x) ∧ entB (recB (headP x) ++ (itemsL (es.map itemE) ++ t)) = es ∧ endK (recB (headP x) ++ (itemsL (es.map itemE) ++ t)) = 20 + wtL es := by
  have hh := hdrL_head x (itemsL (es.map itemE) ++ t)
  rw [live_end hh]
  refine ⟨hh, ?_⟩
  unfold entB
  rw [List.drop_append_of_le_length (by rw [head_length]; omega), List.drop_of_length_le (by rw [head_length]; omega), List.nil_append]
  have hr := isRow_items (itemsL (es.map itemE) ++ t) t ht (es.map itemE) 0 (by rw [List.drop_zero]) (fun y hy => by obtain ⟨e, he, rfl⟩ := List.mem_map.1 hy; exact item_rec _ (by have := payE_le (hg.ok e he); omega))
  rw [show rowL (itemsL (es.map itemE) ++ t) = rowI 0 (es.map itemE) from hr.eq.symm]
  refine ⟨entL_items 0 es [] hg, ?_⟩
  congr 1
  show ((rowI 0 (es.map itemE)).map fun x => x.2.size).sum = _
  rw [rowI_sum, sumI_items]

set_option maxRecDepth 10000 in
/-- The head written where its place is blank, torn or not. -/
theorem open_arm {s : FS} (k : Nat) (x : BitVec 32) (hk : k < s.wear.length) (hl : s.bs.length = 256 * s.wear.length) (hd : s.down = false) (hn : 0 ≤ s.left) (es : List Ent) (hg : Good es) (b : List UInt8) (hb : blank b) (hbl : b.length = 256)
    (hs : sec s.bs k = put b 20 (itemsL (es.map itemE))) :
    ∃ (s' : FS) (e : Int), s.opened k x = (s', e) ∧ Went s s' e ∧ s'.wear = s.wear ∧ (∀ j, j ≠ k → sec s'.bs j = sec s.bs j) ∧
      ((hdrL (sec s'.bs k) = (1, x) ∧ entB (sec s'.bs k) = es ∧ endK (sec s'.bs k) = 20 + wtL es) ∨ (e = 12 ∧ ∀ y, hdrL (sec s'.bs k) ≠ (1, y))) := by
  have hkl : k * 256 + 256 ≤ s.bs.length := by omega
  have hil := itemsE_len es hg.ok
  have hsz : sizeN (headP x).length = 20 := by rw [headP_length]; exact size5
  have hpl : (headP x).length = 5 := headP_length x
  have hform : sec s.bs k = List.replicate 20 255 ++ (itemsL (es.map itemE) ++ b.drop (20 + (itemsL (es.map itemE)).length)) := by
    rw [hs]; unfold put
    congr 1
    have : blank (b.take 20) := fun c hc => hb c (List.mem_of_mem_take hc)
    rw [blank_eq this, List.length_take, hbl]
    rfl
  have htb : blank (b.drop (20 + (itemsL (es.map itemE)).length)) := fun c hc => hb c (List.mem_of_mem_drop hc)
  generalize b.drop (20 + (itemsL (es.map itemE)).length) = t at hform htb
  have hroom : room s.bs (k * 256) 20 := by
    intro j h1 h2
    have hg' := sec_get s.bs k (j - k * 256)
    rw [if_pos (by omega), show k * 256 + (j - k * 256) = j by omega, hform, List.getElem?_append_left (by rw [List.length_replicate]; omega), List.getElem?_replicate, if_pos (by omega)] at hg'
    exact hg'.symm
  obtain ⟨s', e, hwr, went, hwe, hc⟩ := write_arm (s := s) (k * 256) (headP x) (by omega) hd (by omega) (by omega) (by rw [hsz]; exact hroom) hn
  have hop : s.opened k x = (s', e) := by
    unfold FS.opened
    rw [if_neg (by simp [hd]), if_neg (by omega), show ((k : Int) * 256) = ((k * 256 : Nat) : Int) by omega, hwr]
  have hsec : ∀ l : List UInt8, s'.bs = put s.bs (k * 256) l → l.length ≤ 20 → sec s'.bs k = l ++ (List.replicate (20 - l.length) 255 ++ (itemsL (es.map itemE) ++ t)) ∧ (∀ j, j ≠ k → sec s'.bs j = sec s.bs j) := by
    intro l hl' h20
    refine ⟨?_, fun j hj => by rw [hl']; exact sec_put_other _ _ _ _ hj (by omega) hkl⟩
    rw [hl', sec_put_same _ _ _ (by omega) hkl, hform]
    congr 1
    rw [List.drop_append_of_le_length (by rw [List.length_replicate]; omega), List.drop_replicate]
  refine ⟨s', e, hop, went, hwe, ?_⟩
  rcases hc with ⟨rfl, hbs⟩ | ⟨rfl, q, m, hq, hbs⟩
  · obtain ⟨h1, h2⟩ := hsec _ hbs (by rw [head_length]; omega)
    refine ⟨h2, .inl ?_⟩
    rw [h1, head_length]
    exact sector_full x es hg t htb
  · have htl := tornBytes_le q m (headP x)
    rw [hsz] at htl
    obtain ⟨h1, h2⟩ := hsec _ hbs htl
    refine ⟨h2, ?_⟩
    obtain ⟨xs, pad, he, hi, hpad, hcs⟩ := torn_items q m (headP x) (by omega)
    obtain ⟨l1, l2⟩ := torn_len he hi hcs
    rw [hsz] at l2
    -- the pad is part of what is blank
    have hsplit : (List.replicate (20 - (tornBytes q m (headP x)).length) (255 : UInt8)) = List.replicate pad 255 ++ List.replicate (20 - (tornBytes q m (headP x)).length - pad) 255 := by
      rw [List.replicate_append_replicate]; congr 1; omega
    rw [hsplit, List.append_assoc, ← List.append_assoc, he] at h1
    rcases hcs with ⟨rfl, _⟩ | ⟨⟨y, rfl⟩, _⟩ | ⟨y, rfl⟩ | ⟨rfl, _⟩
    · refine .inr ⟨rfl, blank_head fun j hj => ?_⟩
      rw [h1]
      simp only [itemsL, List.flatMap_nil, List.nil_append, if_pos]
      rw [List.getElem?_append_left (by rw [List.length_replicate]; omega), List.getElem?_replicate, if_pos hj]
    · refine .inr ⟨rfl, fun z hz => ?_⟩
      have := hdrL_item (hi (y, ⟨4, 3, []⟩) (by simp)) (by simp) (by simp)
      rw [h1] at hz
      simp only [itemsL, List.flatMap_cons, List.flatMap_nil, List.append_nil, List.append_assoc] at hz
      rw [this] at hz
      cases hz
    · refine .inr ⟨rfl, fun z hz => ?_⟩
      have := hdrL_item (hi (y, ⟨sizeN (headP x).length, 2, []⟩) (by simp)) (by simp) (by simp)
      rw [h1] at hz
      simp only [itemsL, List.flatMap_cons, List.flatMap_nil, List.append_nil, List.append_assoc] at hz
      rw [this] at hz
      cases hz
    · refine .inl ?_
      have hz : sumI [recItem (headP x)] = 20 := by simp [sumI, recItem, hsz]
      rw [hz] at l1
      simp only [List.cons_ne_nil, if_false] at l1 h1
      have h0 : 20 - (tornBytes q m (headP x)).length - pad = 0 := by omega
      rw [h0] at h1
      simp only [itemsL, List.flatMap_cons, List.flatMap_nil, List.append_nil, List.replicate_zero, List.nil_append] at h1
      rw [h1]
      exact sector_full x es hg t htb

def FS.turn (s : FS) (first n k : Nat) (x : BitVec 32) (es : List Ent) : FS × Int :=
  let p := ((s.pick k (lookL s.bs first n)).getD ⟨0, 0, 0#32⟩).sector
  if (s.clear p).2 ≠ 0 then s.clear p
  else if ((s.clear p).1.rows (p.toNat * 256 + 20) es).2 ≠ 0 then (s.clear p).1.rows (p.toNat * 256 + 20) es
  else ((s.clear p).1.rows (p.toNat * 256 + 20) es).1.opened p x

/-- What a turn leaves: p is the sector that it takes, d how often that was erased. -/
structure TurnedTo (s s' : FS) (first n k p : Nat) (d : Int) (e : Int) : Prop where
  went : Went s s' e
  pk : p ≠ k
  p1 : first ≤ p
  p2 : p < first + n
  others : ∀ j, j ≠ p → sec s'.bs j = sec s.bs j
  d01 : d = 0 ∨ d = 1
  live : (hdrL (sec s.bs p)).1 ≠ 0 → d = 1
  wp : s'.wearOf p = s.wearOf p + d
  wo : ∀ j : Nat, j ≠ p → s'.wearOf j = s.wearOf j
  least : ∀ z : Nat, (first ≤ z ∧ z < first + n) → z ≠ k → s.wearOf p ≤ s.wearOf z
  pick : s.pick k (lookL s.bs first n) = some (hdrAt s.bs p)
  bound : ∀ t : Int, (∀ x ∈ s.wear, 0 ≤ x ∧ x ≤ t) → ∀ x ∈ s'.wear, 0 ≤ x ∧ x ≤ t + 1

set_option maxRecDepth 10000 in
theorem Cfg.turn {N first n k i t : Nat} {es : List Ent} {s : FS} (h : Cfg N first n k i t es s) (es' : List Ent) (hg : Good es') (hw : wtL es' ≤ 236) (x : BitVec 32) :
    ∃ (s' : FS) (e : Int) (p : Nat) (d : Int), s.turn first n k x es' = (s', e) ∧ TurnedTo s s' first n k p d e ∧
      ((hdrL (sec s'.bs p) = (1, x) ∧ entB (sec s'.bs p) = es' ∧ endK (sec s'.bs p) = 20 + wtL es') ∨ (e = 12 ∧ ((∀ y, hdrL (sec s'.bs p) ≠ (1, y)) ∨ d = 1))) := by
  have hf := h.fit
  have hn3 := h.n3
  have hwl := h.wl
  have hlen := h.len
  obtain ⟨p, p1, p2, p3, hpick, hleast⟩ := pick_turn s first n k (by omega)
  have hpk : p ≠ k := fun e => p3 (by rw [e])
  have hpl : p < s.wear.length := by omega
  have hleast' : ∀ z : Nat, (first ≤ z ∧ z < first + n) → z ≠ k → s.wearOf p ≤ s.wearOf z := fun z hz hzk => hleast z hz (fun e => hzk (by omega))
  unfold FS.turn
  rw [hpick]
  simp only [Option.getD_some]
  rw [show (hdrAt s.bs p).sector = (p : Int) from rfl]
  simp only [Int.toNat_natCast]
  obtain ⟨s1, e1, hc, went1, o1, b1, w1⟩ := clear_arm p hpl h.down h.left
  rw [hc]
  simp only
  -- the wears
  obtain ⟨d, hd01, hdl, hwear⟩ : ∃ d : Int, (d = 0 ∨ d = 1) ∧ ((hdrL (sec s.bs p)).1 ≠ 0 → d = 1) ∧ ((d = 0 ∧ s1.wear = s.wear) ∨ (d = 1 ∧ s1.wear = s.wear.set p (s.wear.getD p 0 + 1))) := by
    rcases w1 with ⟨h0, _, hw'⟩ | ⟨h0, hw'⟩
    · exact ⟨0, .inl rfl, fun hh => absurd h0 hh, .inl ⟨rfl, hw'⟩⟩
    · exact ⟨1, .inr rfl, fun _ => rfl, .inr ⟨rfl, hw'⟩⟩
  have wfacts : ∀ s' : FS, s'.wear = s1.wear → s'.wearOf p = s.wearOf p + d ∧ (∀ j : Nat, j ≠ p → s'.wearOf j = s.wearOf j) ∧ ∀ t : Int, (∀ x ∈ s.wear, 0 ≤ x ∧ x ≤ t) → ∀ x ∈ s'.wear, 0 ≤ x ∧ x ≤ t + 1 := by
    intro s' hs'
    have hl' : s'.wear.length = s.wear.length := by rw [hs']; exact went1.wl
    rcases hwear with ⟨rfl, hw'⟩ | ⟨rfl, hw'⟩
    · rw [hw'] at hs'
      refine ⟨?_, fun j _ => ?_, fun t ht x hx => ?_⟩
      · rw [wearOf_nat _ _ (by omega), wearOf_nat _ _ hpl, hs']; omega
      · unfold FS.wearOf; rw [hs']
      · rw [hs'] at hx; have := ht x hx; omega
    · rw [hw'] at hs'
      refine ⟨?_, fun j hj => ?_, fun t ht x hx => ?_⟩
      · rw [wearOf_nat _ _ (by omega), wearOf_nat _ _ hpl, hs', List.getD_eq_getElem?_getD, List.getElem?_set_self hpl]; rfl
      · unfold FS.wearOf
        rw [hl']
        split
        · rw [hs', Int.toNat_natCast, List.getD_eq_getElem?_getD, List.getElem?_set_ne (fun e => hj e.symm), ← List.getD_eq_getElem?_getD]
        · rfl
      · rw [hs'] at hx
        rcases List.mem_or_eq_of_mem_set hx with hx | rfl
        · have := ht x hx; omega
        · have hm : s.wear.getD p 0 ∈ s.wear := by rw [List.getD_eq_getElem?_getD, List.getElem?_eq_getElem hpl]; exact List.getElem_mem hpl
          have := ht _ hm; omega
  rcases went1.err with rfl | rfl
  case inr =>
    rw [if_pos (by simp)]
    obtain ⟨f1, f2, f3⟩ := wfacts s1 rfl
    refine ⟨s1, 12, p, d, rfl, ⟨went1, hpk, p1, p2, o1, hd01, hdl, f1, f2, hleast', hpick, f3⟩, .inr ⟨rfl, .inr ?_⟩⟩
    rcases w1 with ⟨_, h0, _⟩ | ⟨h0, _⟩
    · cases h0
    · exact hdl h0
  rw [if_neg (by simp)]
  have hbp := b1 rfl
  have hl1 : p * 256 + 256 ≤ s1.bs.length := by rw [went1.len]; omega
  obtain ⟨s2, e2, hr, went2, we2, o2, q2, z2⟩ := rows_arm es' s1 p 20 hg.ok (went1.ok rfl).1 went1.left hl1 rfl (Nat.le_refl _) (by omega) (blank_drop_le hbp 20)
  rw [hr]
  simp only
  rcases went2.err with rfl | rfl
  case inr =>
    rw [if_pos (by simp)]
    obtain ⟨f1, f2, f3⟩ := wfacts s2 we2
    refine ⟨s2, 12, p, d, rfl, ⟨went1.then went2, hpk, p1, p2, fun j hj => (o2 j hj).trans (o1 j hj), hd01, hdl, f1, f2, hleast', hpick, f3⟩, .inr ⟨rfl, .inl (blank_head fun j hj => ?_)⟩⟩
    rw [q2 j (by omega), blank_eq hbp, sec_length _ _ hl1, List.getElem?_replicate, if_pos (by omega)]
  rw [if_neg (by simp)]
  obtain ⟨s3, e3, ho, went3, we3, o3, c3⟩ := open_arm (s := s2) p x (by rw [went2.wl, went1.wl]; exact hpl) (by rw [went2.len, went1.len, went2.wl, went1.wl]; omega) (went2.ok rfl).1 went2.left es' hg (sec s1.bs p) hbp (sec_length _ _ hl1) (z2 rfl)
  rw [ho]
  obtain ⟨f1, f2, f3⟩ := wfacts s3 (we3.trans we2)
  refine ⟨s3, e3, p, d, rfl, ⟨(went1.then went2).then went3, hpk, p1, p2, fun j hj => (o3 j hj).trans ((o2 j hj).trans (o1 j hj)), hd01, hdl, f1, f2, hleast', hpick, f3⟩, ?_⟩
  rcases c3 with c3 | ⟨c3, c4⟩
  · exact .inl c3
  · exact .inr ⟨c3, .inl c4⟩

/-- The newest head behind a turn that was done. -/
theorem TurnedTo.newest {N first n k i t : Nat} {es : List Ent} {s s' : FS} {p : Nat} {d e : Int} (h : Cfg N first n k i t es s) (ht : TurnedTo s s' first n k p d e) (hi : i < 90000) (hp : hdrL (sec s'.bs p) = (1, BitVec.ofNat 32 (i + 1))) :
    newestL (lookL s'.bs first n) = some ⟨(p : Int), 1, BitVec.ofNat 32 (i + 1)⟩ := by
  refine top_iff.2 ⟨ht.p1, ht.p2, hp, fun j x j1 j2 hx => ?_⟩
  by_cases ej : j = p
  · subst ej; rw [hp] at hx; cases hx; exact ⟨Nat.le_refl _, fun h => absurd h (Nat.lt_irrefl _)⟩
  · rw [ht.others j ej] at hx
    have := (h.top.2.2.2 j x j1 j2 hx).1
    rw [num_ofNat i (by omega)] at this
    rw [num_ofNat (i + 1) (by omega)]
    omega

/-- And the old one, as long as the sector that was taken has none. -/
theorem TurnedTo.stays {N first n k i t : Nat} {es : List Ent} {s s' : FS} {p : Nat} {d e : Int} (h : Cfg N first n k i t es s) (ht : TurnedTo s s' first n k p d e) (hp : ∀ y, hdrL (sec s'.bs p) ≠ (1, y)) :
    newestL (lookL s'.bs first n) = some ⟨(k : Int), 1, BitVec.ofNat 32 i⟩ ∧ sec s'.bs k = sec s.bs k := by
  have hk := ht.others k (fun e => ht.pk e.symm)
  refine ⟨top_iff.2 ⟨h.top.1, h.top.2.1, by rw [hk]; exact h.top.2.2.1, fun j x j1 j2 hx => ?_⟩, hk⟩
  by_cases ej : j = p
  · subst ej; exact absurd hx (hp x)
  · rw [ht.others j ej] at hx
    exact h.top.2.2.2 j x j1 j2 hx
end Go.Proofs.YtlnmbfddhdjioaaGreat
