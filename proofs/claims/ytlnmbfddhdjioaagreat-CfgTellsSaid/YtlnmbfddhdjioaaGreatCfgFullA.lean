/-
  CfgFull, walked.
-/
import Derived.Test.YtlnmbfddhdjioaaGreatCfgQuietA
namespace Go.Proofs.YtlnmbfddhdjioaaGreat
open Go.RowKit Go.Deep

theorem getK_snoc_ne {α : Type} {k : List UInt8} {l : List (List UInt8 × α)} {x : List UInt8 × α} (h : x.1 ≠ k) : getK k (l ++ [x]) = getK k l := by
  unfold getK
  rw [List.find?_append]
  simp [h]

theorem getK_snoc_eq {α : Type} {k : List UInt8} {l : List (List UInt8 × α)} {x : List UInt8 × α} (h0 : getK k l = none) (h : x.1 = k) : getK k (l ++ [x]) = some x.2 := by
  unfold getK at h0 ⊢
  rw [List.find?_append]
  cases hf : l.find? (fun p => p.1 == k) with
  | some y => rw [hf] at h0; simp at h0
  | none => simp [h]

theorem delK_snoc_ne {α : Type} {k : List UInt8} {l : List (List UInt8 × α)} {x : List UInt8 × α} (h : x.1 ≠ k) : delK k (l ++ [x]) = delK k l ++ [x] := by
  unfold delK
  rw [List.filter_append]
  simp [h]

theorem delK_snoc_eq {α : Type} {k : List UInt8} {l : List (List UInt8 × α)} {x : List UInt8 × α} (h : x.1 = k) : delK k (l ++ [x]) = delK k l := by
  unfold delK
  rw [List.filter_append]
  simp [h]

theorem take_snoc {α : Type} {l : List α} {q : Nat} {x : α} (h : l[q]? = some x) : l.take (q + 1) = l.take q ++ [x] := by
  rw [List.take_add_one, h]; rfl

/-- Keys that rise: what stands at a place is not ahead of it. -/
theorem rise_fresh {es : List Ent} (hr : Rise es) {q : Nat} {x : Ent} (h : es[q]? = some x) : getK x.1 (es.take q) = none := by
  rw [get_none]
  intro y hy he
  obtain ⟨i, hi, rfl⟩ := List.mem_iff_getElem.1 hy
  have hi' : i < q := by rw [List.length_take] at hi; omega
  have hq := (List.getElem?_eq_some_iff.1 h)
  obtain ⟨hql, hqx⟩ := hq
  rw [List.getElem_take] at he
  have := List.pairwise_iff_getElem.1 hr.ne i q (by omega) hql hi'
  rw [hqx] at this
  exact this he

def sumF (ky vl : List UInt8) (es : List Ent) (q : Nat) : Nat := weightL ky vl + wtL (delK ky (es.take q))
def sameF (ky vl : List UInt8) (es : List Ent) (q : Nat) : Bool := getK ky (es.take q) == some vl

theorem sumF_ne {ky vl : List UInt8} {es : List Ent} {q : Nat} {x : Ent} (h : es[q]? = some x) (hk : x.1 ≠ ky) : sumF ky vl es (q + 1) = sumF ky vl es q + wE x ∧ sameF ky vl es (q + 1) = sameF ky vl es q := by
  unfold sumF sameF
  rw [take_snoc h, delK_snoc_ne hk, getK_snoc_ne hk, wtL_append]
  exact ⟨by show _ + (_ + (wE x + 0)) = _; omega, rfl⟩

theorem sumF_eq {ky vl : List UInt8} {es : List Ent} (hr : Rise es) {q : Nat} {x : Ent} (h : es[q]? = some x) (hk : x.1 = ky) : sumF ky vl es (q + 1) = sumF ky vl es q ∧ sameF ky vl es (q + 1) = (x.2 == vl) := by
  have hf := rise_fresh hr h
  unfold sumF sameF
  rw [take_snoc h, delK_snoc_eq hk, getK_snoc_eq (by rw [← hk]; exact hf) hk]
  exact ⟨rfl, rfl⟩

theorem sumF_le (ky vl : List UInt8) {es : List Ent} (hw : wtL es ≤ 236) (q : Nat) : sumF ky vl es q ≤ 400 := by
  unfold sumF
  have h1 := wtL_del_le ky (es.take q)
  have h2 : wtL es = wtL (es.take q) + wtL (es.drop q) := by rw [← wtL_append, List.take_append_drop]
  have h3 : weightL ky vl ≤ 96 := by
    unfold weightL
    split
    · rename_i h; exact wE_le (e := (ky, vl)) ⟨h.1.1, h.1.2, h.2⟩
    · omega
  omega

/-- What a change of entries that are less than Room answers, and what counts. -/
theorem opE_full (es : List Ent) (d : Nat) (ky vl : List UInt8) (m : Nat) (hm : es.length ≤ m) (h3 : d % 4 ≠ 3) (h0 : 0 < weightL ky vl) : ((opE es d ky vl).2 = 5) ↔ (236 < sumF ky vl es m ∧ sameF ky vl es m = false) := by
  unfold opE sumF sameF
  rw [if_neg h3, List.take_of_length_le hm]
  unfold setE
  rw [if_neg (by omega)]
  have hw : weightL ky vl = wE (ky, vl) := weightL_ok (okE_of_weight (by omega))
  by_cases h1 : getK ky es = some vl
  · rw [if_pos h1, h1]; simp
  · rw [if_neg h1]
    have h1' : (getK ky es == some vl) = false := by simpa using h1
    rw [h1', hw, ← wtL_put]
    by_cases h2 : 236 < wtL (putK ky vl es)
    · rw [if_pos h2]; simp [h2]
    · rw [if_neg h2]; simp [h2]

theorem All_base {F B W N first n k i t m : Nat} {es : List Ent} {s : FS} (w : World) (hF : FlashE w F B W s) (hc : Cfg N first n k i t es s) (hm : m = es.length) :
    Calls Tryz.prog 13 #[.pointer (some ⟨F, 0, none⟩), .agg #[.int .i64 first, .int .i64 n]] w fun e w' => ∃ ao cp, e = .returned (.tuple #[.slice ao m cp, .int .i64 0]) ∧ EntsAt w.heap.size w' (.slice ao m cp) es ∧ m ≤ cp ∧ Keeps [] w w' := by
  refine (All_ok w hF hc).mono ?_
  rintro e w' ⟨v, rfl, he, k⟩
  obtain ⟨ao, cp, rfl, hcp⟩ := he.shape
  rw [← hm] at hcp he ⊢
  exact ⟨ao, cp, rfl, he, hcp, k⟩

theorem opE_same (es : List Ent) (d : Nat) (ky vl : List UInt8) (h : (opE es d ky vl).2 ≠ 0) : (opE es d ky vl).1 = es := by
  unfold opE setE delE at h ⊢
  split at h <;> rename_i h3
  · rw [if_pos h3]
    split at h <;> rename_i h4
    · rw [if_pos h4]
    · rw [if_neg h4]
      split at h <;> rename_i h5
      · rw [if_pos h5]
      · exact absurd rfl h
  · rw [if_neg h3]
    split at h <;> rename_i h4
    · rw [if_pos h4]
    · rw [if_neg h4]
      split at h <;> rename_i h5
      · exact absurd rfl h
      · rw [if_neg h5]
        split at h <;> rename_i h6
        · rw [if_pos h6]
        · exact absurd rfl h

end Go.Proofs.YtlnmbfddhdjioaaGreat
