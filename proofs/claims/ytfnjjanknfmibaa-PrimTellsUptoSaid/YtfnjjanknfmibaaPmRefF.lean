/-
  The document's one: may an instruction of a word stand there?
-/
import Derived.Test.YtfnjjanknfmibaaPmRefE
import Derived.Test.YtfnjjanknfmibaaPmCk
import Derived.Deep.RegionHeld3
import Derived.Deep.QuietTactic
import Derived.BigQuiet
namespace Go.Proofs.Ytfnjjanknfmibaa
open Go.RowKit Go.Deep
set_option linter.unusedVariables false

theorem long_fit {x : BitVec 32} {r : List (BitVec 32)} (h : longC (x :: r) ≠ 0) (hx : x.toNat < 256) : ∃ p, getP x.toNat = some p ∧ p.ops ≤ r.length := by
  rw [longC_cons] at h
  unfold longX at h
  rw [if_neg (by omega)] at h
  cases hp : getP x.toNat with
  | none => rw [hp] at h; exact absurd rfl h
  | some p =>
    rw [hp] at h
    dsimp only at h
    by_cases hs : r.length + 1 < 1 + p.ops
    · rw [if_pos hs] at h; exact absurd rfl h
    · exact ⟨p, rfl, by omega⟩

theorem starts_long {c : List (BitVec 32)} {k : Nat} (h : k ∈ startsD c) : k < c.length ∧ longC (c.drop k) ≠ 0 := by
  unfold startsD at h
  cases hs : startsC c with
  | none => rw [hs] at h; simp at h
  | some l =>
    rw [hs] at h
    have hw := starts_went hs
    have hm : k ∈ l := by simpa using h
    obtain ⟨i, hi, he⟩ := List.getElem_of_mem hm
    exact ⟨(went_lt hw k hm).2, (went_at hw i k (by rw [List.getElem?_eq_getElem hi, he])).2.1⟩

theorem mayC_drop (l : List Wd) (i k : Nat) (c : List (BitVec 32)) (mine : List Nat) (x : BitVec 32) (hx : c[k]? = some x) : mayC l i (c.drop k) mine =
    (if 256 ≤ x.toNat then decide (x.toNat - 256 ≤ i) else if x.toNat = 139 then decide ((c.getD (k + 1) 0).toNat < i) && (startsD (wordI l (c.getD (k + 1) 0).toNat).code).contains (c.getD (k + 2) 0).toNat
      else !(pOf (getP x.toNat)).jump || mine.contains (c.getD (k + 1) 0).toNat) := by
  have e0 : cellN (c.drop k) 0 = x.toNat := by unfold cellN; rw [List.getD_eq_getElem?_getD, List.getElem?_drop, Nat.add_zero, hx]; rfl
  have e1 : cellN (c.drop k) 1 = (c.getD (k + 1) 0).toNat := by unfold cellN; rw [List.getD_eq_getElem?_getD, List.getElem?_drop, ← List.getD_eq_getElem?_getD]
  have e2 : cellN (c.drop k) 2 = (c.getD (k + 2) 0).toNat := by unfold cellN; rw [List.getD_eq_getElem?_getD, List.getElem?_drop, ← List.getD_eq_getElem?_getD]
  unfold mayC
  rw [e0, e1, e2]

set_option maxRecDepth 100000 in
set_option maxHeartbeats 4000000 in
theorem r11one_any (w : World) (P : Nat → Prop) (v : Value) (l : List Wd) (hw : WordsIn w P v l) (hl : l.length ≤ 1000000) (hcl : ∀ x ∈ l, x.code.length ≤ 2000000) (i k : Nat) (hi : i < l.length) (hk : k ∈ startsD (wordI l i).code) :
    Calls Try.prog 70 #[v, .int .i64 (i : Int), .int .i64 (k : Int)] w fun e w' => e = .returned (.bool (mayC l i ((wordI l i).code.drop k) (startsD (wordI l i).code))) ∧ Keeps [] w w' := by
  have hne : l ≠ [] := by intro e; rw [e] at hi; simp at hi
  obtain ⟨B, o, cap, rfl, hcap, _, _, hBw, hat⟩ := hw.at hne
  have hget := wordI_get hi
  obtain ⟨a, ccap, M, off, _, _, hcell, hur, _, _, _⟩ := hat i _ hget
  have hclen := hcl _ (List.mem_of_getElem? hget)
  have HAT := Lib.hid (show ∀ y, y < l.length → ∃ a ccap M off, w.cell? ⟨B, o + y * 3 + 2, none⟩ = some (.slice a (wordI l y).code.length ccap) ∧ UReads w (.slice a (wordI l y).code.length ccap) (wordI l y).code M off ∧ (wordI l y).code.length ≤ 2000000 from fun y hy => by
    obtain ⟨a, ccap, M, off, _, _, h2, h3, _⟩ := hat y _ (wordI_get hy)
    exact ⟨a, ccap, M, off, h2, h3, hcl _ (List.mem_of_getElem? (wordI_get hy))⟩)
  obtain ⟨hkc, hlong⟩ := starts_long hk
  generalize hcode : (wordI l i).code = c at *
  obtain ⟨x, hx⟩ : ∃ x, c[k]? = some x := ⟨_, List.getElem?_eq_getElem hkc⟩
  rw [mayC_drop l i k c _ x hx]
  have hd : c.drop k = x :: c.drop (k + 1) := by
    rw [List.drop_eq_getElem_cons hkc]
    have := (List.getElem?_eq_some_iff.1 hx).2
    rw [this]
  rw [hd] at hlong
  have hrl : (c.drop (k + 1)).length + (k + 1) = c.length := by rw [List.length_drop]; omega
  obtain ⟨cp2, e2, hxc, hMw⟩ := hur.cell' hx
  injection e2 with e2 _ e3
  subst e2 e3
  have HST := Lib.hid (fun W (hk : Keeps [] w W) (y : Nat) (hy : y < 4294967296) => r11start_any W _ c M off (hur.keeps hk (by simp)) hclen y hy)
  have HCE := Lib.hid (show ∀ q, q < c.length → w.cell? ⟨M, off + q, none⟩ = some (.int .u32 ((c.getD q 0).toNat : Int)) from fun q hq => by
    obtain ⟨y, hy⟩ : ∃ y, c[q]? = some y := ⟨_, List.getElem?_eq_getElem hq⟩
    obtain ⟨_, _, h, _⟩ := hur.cell' hy
    rw [h, List.getD_eq_getElem?_getD, hy]
    rfl)
  have HLP := Lib.hid (fun h => long_fit hlong h)
  clear hcode hat hget hd hlong hk hw hx hur
  generalize startsD c = SD at *
  obtain ⟨n, hn⟩ : ∃ n, n = c.length := ⟨_, rfl⟩
  rw [← hn] at hkc hclen hrl hcell HCE HST
  generalize (c.drop (k + 1)).length = rl at *
  obtain ⟨N, hN⟩ : ∃ N, N = l.length := ⟨_, rfl⟩
  rw [← hN] at hi hl hcap HAT ⊢
  obtain ⟨X, hX⟩ : ∃ X, X = x.toNat := ⟨_, rfl⟩
  rw [← hX] at hxc HLP ⊢
  have hiI : (i : Int) < (N : Int) := by omega
  have hkI : (k : Int) < (n : Int) := by omega
  have ei : IntKind.u32.wrap (i : Int) = (i : Int) := IntWalk.u32_in _ (by omega)
  have ei2 : (i : Int) % 4294967296 = (i : Int) := by omega
  have hXl : X < 4294967296 := by rw [hX]; exact x.isLt
  have HNN := Lib.hid (And.intro hN hn)
  clear hN hn hX hcl hne
  by_cases h256 : 256 ≤ X
  · rw [if_pos h256]
    have q : (256 : Int) ≤ (X : Int) := by omega
    have e : decide ((X : Int) - 256 ≤ (i : Int)) = decide (X - 256 ≤ i) := by
      by_cases h : X - 256 ≤ i
      · rw [decide_eq_true h, decide_eq_true (by omega)]
      · rw [decide_eq_false h, decide_eq_false (by omega)]
    generalize decide (X - 256 ≤ i) = RB at *
    have HE := Lib.hid e
    clear h256 e
    go_enter Try.func70, Try.ntmps70
    go_wp2
    go_ret
    exact ⟨congrArg (fun b => Ending.returned (.bool b)) HE.out, Keeps.refl _ _⟩
  · rw [if_neg h256]
    have q : ¬ (256 : Int) ≤ (X : Int) := by omega
    obtain ⟨p, hp, hops⟩ := HLP.out (by omega)
    have htx := getP_text hp
    have hnum := getP_num hp
    have HGET := Lib.hid (r11Get_any w X)
    rw [hp] at HGET ⊢
    simp only [pOf, Option.getD_some, Option.isSome_some] at HGET ⊢
    rw [pmv_lit] at HGET
    have HB7 := Lib.hid (fun (U : World) (n1 t g o : Int) (s : ByteArray) (tx jp : Bool) => (Whole.new U 27 [.int .u32 n1, .string s, .int .i64 t, .int .i64 g, .int .i64 o, .bool tx, .bool jp]).prim)
    have hst : ((ByteArray.mk p.name.toArray).toList == [40, 71, 79, 41]) = decide (X = 139) := by
      rw [ByteArray.toList_mk]
      by_cases hz : X = 139
      · rw [decide_eq_true hz, htx.2.2.2.1.1 (by rw [hnum]; exact hz)]; rfl
      · rw [decide_eq_false hz]
        have : p.name ≠ [40, 71, 79, 41] := fun e => hz (by rw [← hnum]; exact htx.2.2.2.1.2 e)
        simpa using this
    have hgo : X = 139 → p.ops = 2 ∧ p.jump = false := fun h => htx.2.2.2.2 (by rw [hnum]; exact h)
    have hjo : p.jump = true → p.ops = 1 := htx.2.2.1
    have HJX := Lib.hid (show p.jump = true → ¬ X = 139 from fun h hz => by rw [(hgo hz).2] at h; cases h)
    have HGO := Lib.hid hgo
    have HJO := Lib.hid hjo
    have HOP := Lib.hid hops
    clear hp htx hnum hgo hjo hops HLP h256
    generalize (p.num : Int) = an at *
    generalize ByteArray.mk p.name.toArray = st at *
    generalize (p.takes : Int) = tk at *
    generalize (p.gives : Int) = gv at *
    obtain ⟨oI, hoI⟩ : ∃ oI : Int, oI = (p.ops : Int) := ⟨_, rfl⟩
    rw [← hoI] at HGET
    clear hoI
    generalize p.text = tx at *
    cases hj : p.jump with
    | true =>
      rw [hj] at HGET
      have h139 := HJX.out hj
      have h1 : p.ops = 1 := HJO.out hj
      have hk1 : k + 1 < n := by have := HOP.out; omega
      have HY := Lib.hid (HCE.out (k + 1) hk1)
      rw [if_neg h139]
      have hyl : (c.getD (k + 1) 0).toNat < 4294967296 := (c.getD (k + 1) 0).isLt
      have HS1 := Lib.hid (fun W hk => HST.out W hk _ hyl)
      clear hst HJX HGO HJO HOP h139 h1 hj HST hyl
      generalize (c.getD (k + 1) 0).toNat = y at *
      simp only [Bool.not_true, Bool.false_or]
      generalize SD.contains y = RB at *
      have hk1' : (k : Int) + 1 < (n : Int) := by omega
      have hk2 : (0 : Int) ≤ (k : Int) + 1 := by omega
      have hk3 : ((k : Int) + 1).toNat = k + 1 := by omega
      go_enter Try.func70, Try.ntmps70
      go_upto_region 6 with (go_at_call 11; refine HGET.out.mono ?_; rintro e w1 ⟨rfl, hk⟩; have HK := Lib.hid hk; clear hk)
      obtain ⟨p0, p1, p2, p3, p4, p5, p6⟩ := HB7.out w1 an tk gv oI st tx true
      have KA := Lib.hid (HK.out.trans (Keeps.alloc [] w1 (.cells #[.int .u32 an, .string st, .int .i64 tk, .int .i64 gv, .int .i64 oI, .bool tx, .bool true] 27)))
      have cy := KA.out.cell HY.out (by simp)
      have HS2 := Lib.hid (HS1.out _ KA.out)
      go_wp2_with (go_at_call 80; refine HS2.out.mono ?_; rintro e w2 ⟨rfl, hk⟩; have HK2 := Lib.hid hk; clear hk)
      go_ret
      exact ⟨rfl, KA.out.trans HK2.out⟩
    | false =>
      rw [hj] at HGET
      simp only [Bool.not_false, Bool.true_or]
      by_cases h139 : X = 139
      · rw [if_pos h139]
        rw [decide_eq_true h139] at hst
        have h2 : p.ops = 2 := (HGO.out h139).1
        have hk2 : k + 2 < n := by have := HOP.out; omega
        have HY := Lib.hid (HCE.out (k + 1) (by omega))
        have HZ := Lib.hid (HCE.out (k + 2) hk2)
        have hyl : (c.getD (k + 1) 0).toNat < 4294967296 := (c.getD (k + 1) 0).isLt
        have hzl : (c.getD (k + 2) 0).toNat < 4294967296 := (c.getD (k + 2) 0).isLt
        generalize (c.getD (k + 1) 0).toNat = y at *
        generalize (c.getD (k + 2) 0).toNat = z at *
        have hk1' : (k : Int) + 1 < (n : Int) := by omega
        have hk3 : ((k : Int) + 1).toNat = k + 1 := by omega
        have hk4 : (k : Int) + 2 < (n : Int) := by omega
        have hk6 : ((k : Int) + 2).toNat = k + 2 := by omega
        have hk7 : (0 : Int) ≤ (k : Int) + 1 := by omega
        have hk8 : (0 : Int) ≤ (k : Int) + 2 := by omega
        have hw1 : IntKind.i64.wrap ((k : Int) + 1) = (k : Int) + 1 := IntWalk.i64_in _ (by omega)
        have hw2 : IntKind.i64.wrap ((k : Int) + 2) = (k : Int) + 2 := IntWalk.i64_in _ (by omega)
        subst h139
        clear HJX HGO HJO HOP h2 hj HST
        by_cases hyi : y < i
        · obtain ⟨a2, cc2, M2, off2, hc2, hu2, hl2⟩ := HAT.out y (by omega)
          have HS1 := Lib.hid (fun W (hk : Keeps [] w W) => r11start_any W _ _ M2 off2 (hu2.keeps hk (by simp)) hl2 z hzl)
          rw [decide_eq_true hyi, Bool.true_and]
          have HC2 := Lib.hid hc2
          have hyi' : decide ((y : Int) < (i : Int)) = true := decide_eq_true (by omega)
          have hyi2 : decide (y < i) = true := decide_eq_true hyi
          have hyN : y < N := by omega
          have hyN' : (y : Int) < (N : Int) := by omega
          clear hu2 hc2 hyi hzl
          generalize (startsD (wordI l y).code).contains z = RB at *
          generalize (wordI l y).code.length = n2 at *
          go_enter Try.func70, Try.ntmps70
          go_upto_region 6 with (go_at_call 11; refine HGET.out.mono ?_; rintro e w1 ⟨rfl, hk⟩; have HK := Lib.hid hk; clear hk)
          obtain ⟨p0, p1, p2, p3, p4, p5, p6⟩ := HB7.out w1 an tk gv oI st tx false
          have KA := Lib.hid (HK.out.trans (Keeps.alloc [] w1 (.cells #[.int .u32 an, .string st, .int .i64 tk, .int .i64 gv, .int .i64 oI, .bool tx, .bool false] 27)))
          generalize w1.alloc (.cells #[.int .u32 an, .string st, .int .i64 tk, .int .i64 gv, .int .i64 oI, .bool tx, .bool false] 27) = V at *
          have cy := fun W (hk : Keeps [] V W) => (KA.out.trans hk).cell HY.out (by simp)
          have cz := fun W (hk : Keeps [] V W) => (KA.out.trans hk).cell HZ.out (by simp)
          have cq := fun W (hk : Keeps [] V W) => (KA.out.trans hk).cell HC2.out (by simp)
          have HS2 := Lib.hid (fun W (hk : Keeps [] V W) => HS1.out W (KA.out.trans hk))
          go_upto_region 9 with fail
          go_region_held3 (fun W' => Keeps [] V W') (first | assumption | exact Keeps.refl [] _ | exact Keeps.drew [] _ | exact Keeps.trans (by assumption) (by assumption) | exact (Keeps.drew [] _).trans (by assumption)) (first
            | (go_at_call 80; refine (HS2.out _ (by first | assumption | exact Keeps.refl [] _ | exact Keeps.drew [] _ | exact Keeps.trans (by assumption) (by assumption) | exact (Keeps.drew [] _).trans (by assumption))).mono ?_; rintro e w2 ⟨rfl, hk2⟩))
          all_goals go_wp2
          all_goals go_ret
          all_goals exact ⟨rfl, KA.out.trans (by assumption)⟩
        · rw [decide_eq_false hyi, Bool.false_and]
          have hyi' : decide ((y : Int) < (i : Int)) = false := decide_eq_false (by omega)
          have hyi2 : decide (y < i) = false := decide_eq_false hyi
          clear hyi hzl HAT
          go_enter Try.func70, Try.ntmps70
          go_upto_region 6 with (go_at_call 11; refine HGET.out.mono ?_; rintro e w1 ⟨rfl, hk⟩; have HK := Lib.hid hk; clear hk)
          obtain ⟨p0, p1, p2, p3, p4, p5, p6⟩ := HB7.out w1 an tk gv oI st tx false
          have KA := Lib.hid (HK.out.trans (Keeps.alloc [] w1 (.cells #[.int .u32 an, .string st, .int .i64 tk, .int .i64 gv, .int .i64 oI, .bool tx, .bool false] 27)))
          have cy := KA.out.cell HY.out (by simp)
          generalize w1.alloc (.cells #[.int .u32 an, .string st, .int .i64 tk, .int .i64 gv, .int .i64 oI, .bool tx, .bool false] 27) = V at *
          have cyd := fun n => (Keeps.drewN [] V n).cell cy (by simp)
          go_upto_region 9 with fail
          go_quiet (fail)
          go_wp2
          go_ret
          exact ⟨rfl, KA.out.trans (by first | exact Keeps.refl [] _ | exact Keeps.drew [] _ | exact Keeps.drewN [] _ _)⟩
      · rw [if_neg h139]
        rw [decide_eq_false h139] at hst
        clear HJX HGO HJO HOP hj HST h139
        go_enter Try.func70, Try.ntmps70
        go_upto_region 6 with (go_at_call 11; refine HGET.out.mono ?_; rintro e w1 ⟨rfl, hk⟩; have HK := Lib.hid hk; clear hk)
        obtain ⟨p0, p1, p2, p3, p4, p5, p6⟩ := HB7.out w1 an tk gv oI st tx false
        go_wp2
        go_ret
        exact ⟨rfl, HK.out.trans (Keeps.alloc [] _ _)⟩
end Go.Proofs.Ytfnjjanknfmibaa
