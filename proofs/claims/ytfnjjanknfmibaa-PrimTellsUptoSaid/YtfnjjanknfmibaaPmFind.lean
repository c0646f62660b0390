/-
  The primitives: where one with a number stands in the table: the library's binary search, with the program's comparison.
-/
import Derived.Test.YtfnjjanknfmibaaPmPrims
import Derived.Test.YtfnjjanknfmibaaImBase
import Derived.Laws.Shifts
namespace Go.Proofs.Ytfnjjanknfmibaa
open Go.RowKit Go.Deep
set_option linter.unusedVariables false

def noP : Pm := ⟨0, [], 0, 0, 0, false, false⟩
def primI (i : Nat) : Pm := tabL.getD i noP

theorem tabL_length : tabL.length = 113 := rfl
theorem primI_get {i : Nat} (h : i < 113) : tabL[i]? = some (primI i) := by
  unfold primI
  rw [List.getD_eq_getElem?_getD, List.getElem?_eq_getElem (by rw [tabL_length]; exact h)]; rfl

/-- The table stands at the head of a block. -/
def TabAt (w : World) (b : Nat) : Prop := ∀ k v, (cellsP tabL)[k]? = some v → w.cell? ⟨b, k, none⟩ = some v

theorem TabAt.keeps {S : List Nat} {w w' : World} {b : Nat} (h : TabAt w b) (hk : Keeps S w w') (hb : b ∉ S) : TabAt w' b := fun k v hv => hk.cell (h k v hv) hb
theorem TabAt.lt {w : World} {b : Nat} (h : TabAt w b) : b < w.heap.size := World.block_lt_of_cell? w _ (h 0 (.int .u32 1) rfl)

theorem TabAt.prim {w : World} {b : Nat} (h : TabAt w b) {i : Nat} (hi : i < 113) :
    w.cell? ⟨b, i * 7, none⟩ = some (.int .u32 ((primI i).num : Int)) ∧ w.cell? ⟨b, i * 7 + 1, none⟩ = some (str (primI i).name) ∧ w.cell? ⟨b, i * 7 + 2, none⟩ = some (.int .i64 ((primI i).takes : Int)) ∧
    w.cell? ⟨b, i * 7 + 3, none⟩ = some (.int .i64 ((primI i).gives : Int)) ∧ w.cell? ⟨b, i * 7 + 4, none⟩ = some (.int .i64 ((primI i).ops : Int)) ∧
    w.cell? ⟨b, i * 7 + 5, none⟩ = some (.bool (primI i).text) ∧ w.cell? ⟨b, i * 7 + 6, none⟩ = some (.bool (primI i).jump) := by
  have hc : ∀ j, j < 7 → ∀ v, (primI i).cells[j]? = some v → w.cell? ⟨b, i * 7 + j, none⟩ = some v := by
    intro j hj v hv
    refine h _ _ ?_
    rw [cellsP_get, show (i * 7 + j) / 7 = i by omega, show (i * 7 + j) % 7 = j by omega, primI_get hi]
    exact hv
  exact ⟨hc 0 (by omega) _ rfl, hc 1 (by omega) _ rfl, hc 2 (by omega) _ rfl, hc 3 (by omega) _ rfl, hc 4 (by omega) _ rfl, hc 5 (by omega) _ rfl, hc 6 (by omega) _ rfl⟩

set_option maxRecDepth 100000 in
theorem num_mono : ∀ i, i < 112 → (primI i).num < (primI (i + 1)).num := by
  have h : (List.range 112).all (fun i => decide ((primI i).num < (primI (i + 1)).num)) = true := by kernel_rfl
  intro i hi
  have := List.all_eq_true.1 h i (List.mem_range.2 hi)
  exact of_decide_eq_true this

theorem num_lt : ∀ (d i : Nat), i + d + 1 < 113 → (primI i).num < (primI (i + d + 1)).num
  | 0, i, h => num_mono i (by omega)
  | d + 1, i, h => by
    have := num_lt d i (by omega)
    have := num_mono (i + d + 1) (by omega)
    rw [show i + (d + 1) + 1 = i + d + 1 + 1 by omega]
    omega

theorem num_le {i j : Nat} (h : i ≤ j) (hj : j < 113) : (primI i).num ≤ (primI j).num := by
  by_cases he : i = j
  · subst he; omega
  · have := num_lt (j - i - 1) i (by omega)
    rw [show i + (j - i - 1) + 1 = j by omega] at this
    omega

set_option maxRecDepth 100000 in
theorem num_small (i : Nat) (h : i < 113) : (primI i).num < 256 := by
  have := num_le (i := i) (j := 112) (by omega) (by omega)
  have e : (primI 112).num = 140 := by kernel_rfl
  omega

def cmpN (a n : Nat) : Int := if a < n then -1 else if n < a then 1 else 0

theorem isNaN_any (w : World) (x : Nat) : Calls Try.prog 75 #[.int .u32 (x : Int)] w fun e w' => e = .returned (.bool false) ∧ w = w' := by
  go_enter Try.func75, Try.ntmps75
  go_wp2
  go_ret
  exact ⟨by simp, rfl⟩

set_option maxRecDepth 100000 in
theorem cmp_any (w : World) (x y : Nat) : Calls Try.prog 62 #[.int .u32 (x : Int), .int .u32 (y : Int)] w fun e w' => e = .returned (.int .i64 (cmpN x y)) ∧ w = w' := by
  have h1 := Lib.hid (isNaN_any w x)
  have h2 := Lib.hid (isNaN_any w y)
  unfold cmpN
  by_cases hlt : x < y
  · rw [if_pos hlt]
    have hlt' : (x : Int) < (y : Int) := by omega
    go_enter Try.func62, Try.ntmps62
    go_wp2_with (first | (refine h1.out.mono ?_; rintro e w' ⟨rfl, rfl⟩) | (refine h2.out.mono ?_; rintro e w' ⟨rfl, rfl⟩))
    go_ret
    exact ⟨rfl, rfl⟩
  · rw [if_neg hlt]
    by_cases hgt : y < x
    · rw [if_pos hgt]
      have hlt' : ¬ (x : Int) < (y : Int) := by omega
      have hgt' : (x : Int) > (y : Int) := by omega
      go_enter Try.func62, Try.ntmps62
      go_wp2_with (first | (refine h1.out.mono ?_; rintro e w' ⟨rfl, rfl⟩) | (refine h2.out.mono ?_; rintro e w' ⟨rfl, rfl⟩))
      go_ret
      exact ⟨rfl, rfl⟩
    · rw [if_neg hgt]
      have he : x = y := by omega
      subst he
      go_enter Try.func62, Try.ntmps62
      go_wp2_with (first | (refine h1.out.mono ?_; rintro e w' ⟨rfl, rfl⟩))
      go_ret
      exact ⟨rfl, rfl⟩

theorem getFn_any (w : World) (a n : Nat) (s : ByteArray) (t g o : Int) (x j : Bool) : Calls Try.prog 61 #[.agg #[.int .u32 (a : Int), .string s, .int .i64 t, .int .i64 g, .int .i64 o, .bool x, .bool j], .int .u32 (n : Int)] w fun e w' => e = .returned (.int .i64 (cmpN a n)) ∧ Keeps [] w w' := by
  have h1 := Lib.hid fun W => cmp_any W a n
  generalize cmpN a n = c at *
  go_enter Try.func61, Try.ntmps61
  go_wp2_with (refine (h1.out _).mono ?_; rintro e w' ⟨rfl, rfl⟩)
  go_ret
  exact ⟨rfl, Keeps.alloc [] _ _⟩

theorem cmpN_neg {a n : Nat} : cmpN a n < 0 ↔ a < n := by
  unfold cmpN
  split
  · simp; omega
  · split <;> simp <;> omega
theorem cmpN_zero {a n : Nat} : cmpN a n = 0 ↔ a = n := by
  unfold cmpN
  split
  · simp; omega
  · split <;> simp <;> omega

/-- What a search tells. -/
structure Sought (n : Nat) (e : Ending) (i : Nat) (q : Bool) : Prop where
  le : i ≤ 113
  low : ∀ k, k < i → (primI k).num < n
  high : ∀ k, i ≤ k → k < 113 → n ≤ (primI k).num
  is : q = decide (i < 113 ∧ (primI i).num = n)
  told : e = .returned (.tuple #[.int .i64 (i : Int), .bool q])

def Searched (n : Nat) (w : World) (e : Ending) (w' : World) : Prop := ∃ (i : Nat) (q : Bool), Sought n e i q ∧ Keeps [] w w'

set_option maxRecDepth 100000 in
set_option maxHeartbeats 2000000 in
theorem search_any (w : World) (b n : Nat) (hb : TabAt w b) : Calls Try.prog 60 #[.slice (some ⟨b, 0, none⟩) 113 113, .int .u32 (n : Int), .func (.func 61) #[] #[]] w fun e w' =>
    Searched n w e w' := by
  have HB := Lib.hid hb
  have HF := Lib.hid getFn_any
  clear hb
  go_enter Try.func60, Try.ntmps60
  go_wp2
  go_loopw [9, 10] (fun x y wr => ∃ i j : Nat, i ≤ j ∧ j ≤ 113 ∧ x = .int .i64 (i : Int) ∧ y = .int .i64 (j : Int) ∧ (∀ k, k < i → (primI k).num < n) ∧ (∀ k, j ≤ k → k < 113 → n ≤ (primI k).num) ∧ Keeps [] w wr) (fun x y _ => ((intOf y) - (intOf x)).toNat)
  case atStart => exact ⟨0, 113, by omega, by omega, rfl, rfl, fun k h => by omega, fun k h1 h2 => by omega, Keeps.refl _ _⟩
  case round =>
    obtain ⟨i, j, hij, hj, rfl, rfl, hlo, hhi, hk⟩ := hrel
    have HK := Lib.hid hk
    have HL := Lib.hid hlo
    have HH := Lib.hid hhi
    clear hk hlo hhi
    by_cases hlt : i < j
    · obtain ⟨m, hm⟩ : ∃ m, m = (i + j) / 2 := ⟨_, rfl⟩
      have hm1 : i ≤ m := by omega
      have hm2 : m < j := by omega
      have hlt' : (i : Int) < (j : Int) := by omega
      obtain ⟨c0, c1, c2, c3, c4, c5, c6⟩ := (HB.out.keeps HK.out (by simp)).prim (i := m) (by omega)
      have e1 : ((i : Int) + (j : Int)) / 2 = (m : Int) := by omega
      have e2 : IntKind.i64.wrap ((i : Int) + (j : Int)) = (i : Int) + (j : Int) := IntWalk.i64_in _ (by omega)
      have e3 : IntKind.u64.wrap ((i : Int) + (j : Int)) = (i : Int) + (j : Int) := IntWalk.u64_in _ (by omega)
      have HM := Lib.hid hm
      clear hm
      have e4 : IntKind.i64.wrap (m : Int) = (m : Int) := IntWalk.i64_in _ (by omega)
      have HC := Lib.hid fun W => HF.out W (primI m).num n ⟨(primI m).name.toArray⟩ (primI m).takes (primI m).gives (primI m).ops (primI m).text (primI m).jump
      unfold str at c1
      generalize hnum : (primI m).num = a at *
      generalize ByteArray.mk (primI m).name.toArray = s at *
      generalize ((primI m).takes : Int) = t at *
      generalize ((primI m).gives : Int) = g at *
      generalize ((primI m).ops : Int) = o at *
      generalize (primI m).text = tx at *
      generalize (primI m).jump = jp at *
      have hmj : (m : Int) < 113 := by omega
      have HN := Lib.hid hnum
      have HCC := Lib.hid (show cmpN a n < 0 ↔ a < n from cmpN_neg)
      clear hnum
      generalize cmpN a n = c at *
      by_cases hc : c < 0
      · have HA := Lib.hid (HCC.out.1 hc)
        go_wp2_with (refine (HC.out _).mono ?_; rintro e w3 ⟨rfl, hk3⟩; have HK3 := Lib.hid hk3; clear hk3)
        go_roundw
        case rel => exact ⟨m + 1, j, by omega, by omega, by go_num, rfl, fun k hk => Nat.lt_of_le_of_lt (num_le (i := k) (j := m) (by omega) (by omega)) (by rw [HN.out]; exact HA.out), HH.out, HK.out.trans HK3.out⟩
        case measure => simp [intOf]; omega
      · have HA := Lib.hid (show n ≤ a from by have := HCC.out; omega)
        go_wp2_with (refine (HC.out _).mono ?_; rintro e w3 ⟨rfl, hk3⟩; have HK3 := Lib.hid hk3; clear hk3)
        go_roundw
        case rel => exact ⟨i, m, by omega, by omega, rfl, rfl, HL.out, fun k h1 h2 => Nat.le_trans (by rw [HN.out]; exact HA.out) (num_le h1 h2), HK.out.trans HK3.out⟩
        case measure => simp [intOf]; omega
    · obtain rfl : i = j := by omega
      by_cases hi : i < 113
      · have hi' : (i : Int) < 113 := by omega
        obtain ⟨c0, c1, c2, c3, c4, c5, c6⟩ := (HB.out.keeps HK.out (by simp)).prim hi
        have HC := Lib.hid fun W => HF.out W (primI i).num n ⟨(primI i).name.toArray⟩ (primI i).takes (primI i).gives (primI i).ops (primI i).text (primI i).jump
        have HCC := Lib.hid (show cmpN (primI i).num n = 0 ↔ (primI i).num = n from cmpN_zero)
        unfold str at c1
        generalize hnum : (primI i).num = a at *
        have HN := Lib.hid hnum
        clear hnum
        generalize ByteArray.mk (primI i).name.toArray = s at *
        generalize ((primI i).takes : Int) = t at *
        generalize ((primI i).gives : Int) = g at *
        generalize ((primI i).ops : Int) = o at *
        generalize (primI i).text = tx at *
        generalize (primI i).jump = jp at *
        generalize cmpN a n = c at *
        go_wp2_with (refine (HC.out _).mono ?_; rintro e w3 ⟨rfl, hk3⟩; have HK3 := Lib.hid hk3; clear hk3)
        go_ret2
        exact ⟨i, _, ⟨by omega, HL.out, HH.out, by rw [HN.out, Bool.eq_iff_iff]; simp [hi, HCC.out], rfl⟩, HK.out.trans HK3.out⟩
      · have hi' : ¬ (i : Int) < 113 := by omega
        go_wp2
        go_ret2
        exact ⟨i, _, ⟨by omega, HL.out, HH.out, by simp [hi], rfl⟩, HK.out⟩

def getP (n : Nat) : Option Pm := tabL.find? fun p => p.num == n
def pOf (o : Option Pm) : Pm := o.getD noP

theorem find_at : ∀ (l : List Pm) (n i : Nat) (p : Pm), l[i]? = some p → p.num = n → (∀ k, k < i → ∀ q, l[k]? = some q → q.num ≠ n) → l.find? (fun p => p.num == n) = some p
  | [], n, i, p, h, _, _ => by simp at h
  | q :: l, n, 0, p, h, hn, _ => by
    simp at h; subst h
    rw [List.find?_cons_of_pos (by simpa using hn)]
  | q :: l, n, i + 1, p, h, hn, hk => by
    have := hk 0 (by omega) q rfl
    rw [List.find?_cons_of_neg (by simpa using this)]
    exact find_at l n i p (by simpa using h) hn (fun k hki q hq => hk (k + 1) (by omega) q (by simpa using hq))

theorem getP_at {i : Nat} (h : i < 113) : getP (primI i).num = some (primI i) := by
  refine find_at tabL _ i _ (primI_get h) rfl (fun k hk q hq => ?_)
  rw [primI_get (by omega)] at hq
  injection hq with hq
  subst hq
  have := num_lt (i - k - 1) k (by omega)
  rw [show k + (i - k - 1) + 1 = i by omega] at this
  omega

theorem getP_some {n : Nat} {p : Pm} (h : getP n = some p) : ∃ i, i < 113 ∧ primI i = p ∧ p.num = n := by
  have h1 := List.find?_some h
  have h2 := List.mem_of_find?_eq_some h
  obtain ⟨i, hi⟩ := List.mem_iff_getElem?.1 h2
  have hl := (List.getElem?_eq_some_iff.1 hi).1
  rw [tabL_length] at hl
  rw [primI_get hl] at hi
  injection hi with hi
  exact ⟨i, hl, hi, by simpa using h1⟩

theorem getP_none {n : Nat} (h : ∀ i, i < 113 → (primI i).num ≠ n) : getP n = none := by
  cases hg : getP n with
  | none => rfl
  | some p => obtain ⟨i, hi, rfl, hn⟩ := getP_some hg; exact absurd hn (h i hi)

theorem sought_none {n : Nat} {e : Ending} {i : Nat} {q : Bool} (h : Sought n e i q) (hg : getP n = none) : e = .returned (.tuple #[.int .i64 (i : Int), .bool false]) := by
  have hq : q = false := by
    rw [h.is, decide_eq_false_iff_not]
    rintro ⟨hi, hn⟩
    rw [← hn, getP_at hi] at hg
    cases hg
  rw [h.told, hq]

theorem sought_some {n : Nat} {e : Ending} {i j : Nat} {q : Bool} (h : Sought n e i q) (hj : j < 113) (hn : (primI j).num = n) : e = .returned (.tuple #[.int .i64 (j : Int), .bool true]) := by
  have hij : i = j := by
    rcases Nat.lt_trichotomy i j with hlt | heq | hgt
    · have h1 := h.high i (Nat.le_refl _) (by omega)
      have h2 := num_lt (j - i - 1) i (by omega)
      rw [show i + (j - i - 1) + 1 = j by omega] at h2
      omega
    · exact heq
    · have := h.low j hgt; omega
  subst hij
  have hq : q = true := by rw [h.is, decide_eq_true_eq]; exact ⟨hj, hn⟩
  rw [h.told, hq]
end Go.Proofs.Ytfnjjanknfmibaa
