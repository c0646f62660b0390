/-
  Numbers as texts: the document's Read.
-/
import Derived.Test.YtfnjjanknfmibaaNuRefB
namespace Go.Proofs.Ytfnjjanknfmibaa
open Go.RowKit Go.Deep
set_option linter.unusedVariables false

def sgnL (b : Nat) : List UInt8 → List UInt8 × Nat
  | [] => ([], b)
  | c :: u => if sgnN c.toNat = 0 then (c :: u, b) else (u, sgnN c.toNat)
def minL : List UInt8 → List UInt8 × Bool
  | [] => ([], false)
  | c :: u => if c.toNat = 45 then (u, true) else (c :: u, false)
def begS : List UInt8 → Bool
  | [] => false
  | c :: _ => decide (0 < sgnN c.toNat)
def begM : List UInt8 → Bool
  | [] => false
  | c :: _ => decide (c.toNat = 45)
theorem uns_min (b : Nat) (u : List UInt8) : unsG false b false u = ((minL u).1, b, (minL u).2) := by
  cases u with
  | nil => rfl
  | cons c t =>
    by_cases h : c.toNat = 45
    · have e : minL (c :: t) = (t, true) := if_pos h
      rw [e]
      unfold unsG
      rw [if_neg (fun hh => by cases hh.1), if_neg (fun hh => by cases hh.1), if_neg (fun hh => by cases hh.1), if_pos ⟨h, rfl⟩]
      cases t with
      | nil => rfl
      | cons d v =>
        unfold unsG
        rw [if_neg (fun hh => by cases hh.1), if_neg (fun hh => by cases hh.1), if_neg (fun hh => by cases hh.1), if_neg (fun hh => by cases hh.2)]
    · have e : minL (c :: t) = (c :: t, false) := if_neg h
      rw [e]
      unfold unsG
      rw [if_neg (fun hh => by cases hh.1), if_neg (fun hh => by cases hh.1), if_neg (fun hh => by cases hh.1), if_neg (fun hh => h hh.1)]
theorem sgn_mark {c : UInt8} (h : c.toNat = 35 ∨ c.toNat = 36 ∨ c.toNat = 37) : sgnN c.toNat = markB c ∧ sgnN c.toNat ≠ 0 := by
  unfold sgnN markB
  rcases h with h | h | h
  · rw [if_pos h, if_pos h]; exact ⟨rfl, by decide⟩
  · rw [if_neg (by omega), if_pos h, if_neg (by omega), if_pos h]; exact ⟨rfl, by decide⟩
  · rw [if_neg (by omega), if_neg (by omega), if_pos h, if_neg (by omega), if_neg (by omega)]; exact ⟨rfl, by decide⟩
theorem sgn_zero {c : UInt8} (h : ¬ (c.toNat = 35 ∨ c.toNat = 36 ∨ c.toNat = 37)) : sgnN c.toNat = 0 := by
  unfold sgnN
  rw [if_neg (by omega), if_neg (by omega), if_neg (by omega)]
theorem uns_parts (l : List UInt8) (b : Nat) : unsG true b false l = ((minL (sgnL b l).1).1, (sgnL b l).2, (minL (sgnL b l).1).2) := by
  cases l with
  | nil => rfl
  | cons c u =>
    by_cases h : c.toNat = 35 ∨ c.toNat = 36 ∨ c.toNat = 37
    · have e : sgnL b (c :: u) = (u, sgnN c.toNat) := if_neg (sgn_mark h).2
      rw [e, uns_mark u h, uns_min, (sgn_mark h).1]
    · have e : sgnL b (c :: u) = (c :: u, b) := if_pos (sgn_zero h)
      rw [e]
      by_cases hm : c.toNat = 45
      · have e2 : unsG true b false (c :: u) = unsG false b true u := by
          show (if true = true ∧ c.toNat = 35 then _ else _) = _
          rw [if_neg (fun hh => by omega), if_neg (fun hh => by omega), if_neg (fun hh => by omega), if_pos ⟨hm, rfl⟩]
        have e3 : unsG false b false (c :: u) = unsG false b true u := by
          show (if false = true ∧ c.toNat = 35 then _ else _) = _
          rw [if_neg (fun hh => by have := hh.1; contradiction), if_neg (fun hh => by have := hh.1; contradiction), if_neg (fun hh => by have := hh.1; contradiction), if_pos ⟨hm, rfl⟩]
        rw [e2, ← e3, uns_min]
      · have e2 : minL (c :: u) = (c :: u, false) := if_neg hm
        rw [e2, uns_head u (by omega)]
theorem quo_some {l : List UInt8} {n : Nat} (h : quoN l = some n) : ∃ a x z, l = [a, x, z] ∧ x.toNat = n ∧ a.toNat = 39 ∧ z.toNat = 39 ∧ 32 ≤ n ∧ n ≤ 126 := by
  match l, h with
  | [], h => cases h
  | [_], h => cases h
  | [_, _], h => cases h
  | [a, x, z], h =>
    have h' : (if a.toNat = 39 ∧ z.toNat = 39 ∧ 32 ≤ x.toNat ∧ x.toNat ≤ 126 then some x.toNat else none) = some n := h
    split at h'
    · next hh => injection h' with h'; exact ⟨a, x, z, rfl, h', hh.1, hh.2.1, by omega, by omega⟩
    · cases h'
  | _ :: _ :: _ :: _ :: _, h => cases h
theorem readN_parts (l : List UInt8) (b : Nat) (h : quoN l = none) (l1 : List UInt8) (b1 : Nat) (l2 : List UInt8) (mi : Bool) (l3 : List UInt8) (d : Bool) (h1 : sgnL b l = (l1, b1)) (h2 : minL l1 = (l2, mi)) (h3 : cutP l2 = (l3, d)) : readN l b = readV d mi (valN b1 l3) := by
  unfold readN
  rw [h, uns_parts, h1]
  simp only [h2, h3]
theorem sgn_len (b : Nat) (l : List UInt8) : (sgnL b l).1.length ≤ l.length := by
  cases l with
  | nil => simp [sgnL]
  | cons c u =>
    show (if sgnN c.toNat = 0 then (c :: u, b) else (u, sgnN c.toNat)).1.length ≤ _
    split <;> simp
theorem min_len (l : List UInt8) : (minL l).1.length ≤ l.length := by
  cases l with
  | nil => simp [minL]
  | cons c u =>
    show (if c.toNat = 45 then (u, true) else (c :: u, false)).1.length ≤ _
    split <;> simp

set_option maxRecDepth 100000 in
set_option maxHeartbeats 4000000 in
theorem r13Read_quo (w : World) (l : List UInt8) (b n : Nat) (h : quoN l = some n) : Calls Try.prog 27 #[str l, .int .u32 (b : Int)] w fun e w' => e = .returned (.tuple #[.int .u32 (n : Int), .int .u32 0, .bool false, .bool true]) ∧ w = w' := by
  obtain ⟨a, x, z, rfl, hx, ha, hz, h1, h2⟩ := quo_some h
  have i0 : ∀ W, (Instr.index 9 (.string ⟨[a, x, z].toArray⟩) (.int .i64 0)).run Try.prog W = .ok (bv a) W := fun W => run_str_at W [a, x, z] 0 a rfl
  have i1 : ∀ W, (Instr.index 9 (.string ⟨[a, x, z].toArray⟩) (.int .i64 1)).run Try.prog W = .ok (bv x) W := fun W => run_str_at W [a, x, z] 1 x rfl
  have i2 : ∀ W, (Instr.index 9 (.string ⟨[a, x, z].toArray⟩) (.int .i64 2)).run Try.prog W = .ok (bv z) W := fun W => run_str_at W [a, x, z] 2 z rfl
  have hsz := str_size [a, x, z]
  unfold str
  unfold bv at i0 i1 i2
  rw [ha] at i0
  rw [hx] at i1
  rw [hz] at i2
  generalize ByteArray.mk [a, x, z].toArray = S at *
  simp only [List.length_cons, List.length_nil, Nat.zero_add, Nat.reduceAdd] at hsz
  have q1 : (32 : Int) ≤ (n : Int) := by omega
  have q2 : (n : Int) ≤ 126 := by omega
  clear h hx ha hz h1 h2
  go_enter Try.func27, Try.ntmps27
  go_wp2
  exact bodyPost_ret (v := .tuple #[.int .u32 (n : Int), .int .u32 0, .bool false, .bool true]) (by simp [results, Try.results27, go_sem]) rfl ⟨rfl, rfl⟩

set_option maxRecDepth 100000 in
set_option maxHeartbeats 4000000 in
theorem r13Read_any (w : World) (l : List UInt8) (b : Nat) (hl : l.length ≤ maxLen) (hb32 : b < 4294967296) : Calls Try.prog 27 #[str l, .int .u32 (b : Int)] w fun e w' =>
    e = .returned (.tuple #[.int .u32 ((readN l b).low : Int), .int .u32 ((readN l b).high : Int), .bool (readN l b).dbl, .bool (readN l b).ok]) ∧ w = w' := by
  cases hq : quoN l with
  | some n =>
    have e : readN l b = ⟨n, 0, false, true⟩ := by unfold readN; rw [hq]
    rw [e]
    exact r13Read_quo w l b n hq
  | none =>
    obtain ⟨l1, b1, h1⟩ : ∃ l1 b1, sgnL b l = (l1, b1) := ⟨_, _, rfl⟩
    obtain ⟨l2, mi, h2⟩ : ∃ l2 mi, minL l1 = (l2, mi) := ⟨_, _, rfl⟩
    obtain ⟨l3, d, h3⟩ : ∃ l3 d, cutP l2 = (l3, d) := ⟨_, _, rfl⟩
    have k1 : l1.length ≤ l.length := by have := sgn_len b l; rwa [h1] at this
    have k2 : l2.length ≤ l1.length := by have := min_len l1; rwa [h2] at this
    have k3 : l3.length ≤ l2.length := by have := cut_len l2; rwa [h3] at this
    rw [readN_parts l b hq l1 b1 l2 mi l3 d h1 h2 h3]
    have HD := Lib.hid (fun W => r13digits_any W l3 b1 (by omega))
    have hvl : ∀ n, valN b1 l3 = some n → n < 18446744073709551616 := fun n h => val_lt h
    generalize valN b1 l3 = V at *
    obtain ⟨RV, hRV⟩ : ∃ RV, RV = readV d mi V := ⟨_, rfl⟩
    rw [← hRV]
    have HRV := Lib.hid hRV
    have HVL := Lib.hid hvl
    have H1 := Lib.hid h1
    have H2 := Lib.hid h2
    have H3 := Lib.hid h3
    have HQ := Lib.hid hq
    have HK := Lib.hid (And.intro k1 (And.intro k2 (And.intro k3 hl)))
    have hml : maxLen = 9223372036854775807 := rfl
    have HSZ := Lib.hid (fun x : List UInt8 => str_size x)
    have HIX := Lib.hid (fun (W : World) (x : List UInt8) k c h => run_str_at W x k c h)
    have HFR := Lib.hid (fun (W : World) (x : List UInt8) i h => run_str_from W x i h)
    have HTO := Lib.hid (fun (W : World) (x : List UInt8) i h => run_str_to W x i h)
    clear hRV hvl h1 h2 h3 hq k1 k2 k3 hl
    unfold str at HD ⊢
    go_enter Try.func27, Try.ntmps27
    go_upto_region 1 with fail
    go_cut [36] from 14 to 36 (fun v36 wc => v36 = .bool false ∧ w = wc)
    case first =>
      have hsz := HSZ.out l
      by_cases hn3 : l.length = 3
      · obtain ⟨a, x, z, rfl⟩ : ∃ a x z, l = [a, x, z] := by
          match l, hn3 with
          | [a, x, z], _ => exact ⟨a, x, z, rfl⟩
        have i0 : ∀ W, (Instr.index 9 (.string ⟨[a, x, z].toArray⟩) (.int .i64 0)).run Try.prog W = .ok (bv a) W := fun W => HIX.out W [a, x, z] 0 a rfl
        have i1 : ∀ W, (Instr.index 9 (.string ⟨[a, x, z].toArray⟩) (.int .i64 1)).run Try.prog W = .ok (bv x) W := fun W => HIX.out W [a, x, z] 1 x rfl
        have i2 : ∀ W, (Instr.index 9 (.string ⟨[a, x, z].toArray⟩) (.int .i64 2)).run Try.prog W = .ok (bv z) W := fun W => HIX.out W [a, x, z] 2 z rfl
        have hno : ¬ (a.toNat = 39 ∧ z.toNat = 39 ∧ 32 ≤ x.toNat ∧ x.toNat ≤ 126) := fun h => by
          have e : quoN [a, x, z] = some x.toNat := if_pos h
          rw [HQ.out] at e
          cases e
        unfold bv at i0 i1 i2
        simp only [List.length_cons, List.length_nil, Nat.zero_add, Nat.reduceAdd] at hsz
        generalize ByteArray.mk [a, x, z].toArray = S at *
        generalize a.toNat = an at *
        generalize x.toNat = xn at *
        generalize z.toNat = zn at *
        clear hn3
        by_cases ha : an = 39
        · subst ha
          by_cases hz : zn = 39
          · subst hz
            by_cases hx1 : 32 ≤ xn
            · have q1 : (32 : Int) ≤ (xn : Int) := by omega
              have q2 : ¬ (xn : Int) ≤ 126 := by omega
              clear hno hx1
              go_wp2_with fail
              go_meet
              exact ⟨rfl, rfl⟩
            · have q1 : ¬ (32 : Int) ≤ (xn : Int) := by omega
              clear hno hx1
              go_wp2_with fail
              go_meet
              exact ⟨rfl, rfl⟩
          · have q : ((zn : Int) == 39) = false := by simp; omega
            clear hno hz
            go_wp2_with fail
            go_meet
            exact ⟨rfl, rfl⟩
        · have q : ((an : Int) == 39) = false := by simp; omega
          clear hno ha
          go_wp2_with fail
          go_meet
          exact ⟨rfl, rfl⟩
      · have q : ((l.length : Int) == 3) = false := by simp; omega
        clear hn3
        generalize ByteArray.mk l.toArray = S at *
        generalize l.length = m at *
        go_wp2_with fail
        go_meet
        exact ⟨rfl, rfl⟩
    case rest =>
      obtain ⟨rfl, rfl⟩ := hcut
      go_upto_region 3 with fail
      obtain ⟨B1, hB1⟩ : ∃ B1 : Bool, B1 = begS l := ⟨_, rfl⟩
      have HB1 := Lib.hid hB1
      go_cut [48] from 40 to 48 (fun v wc => v = .bool B1 ∧ w = wc)
      case first =>
        have hsz := HSZ.out l
        cases l with
        | nil =>
          have e : B1 = false := hB1
          subst e
          clear hB1
          simp only [List.length_nil] at hsz
          generalize ByteArray.mk ([] : List UInt8).toArray = S at *
          go_wp2_with fail
          go_meet
          exact ⟨rfl, rfl⟩
        | cons c u =>
          have e : B1 = decide (0 < sgnN c.toNat) := hB1
          have i0 : ∀ W, (Instr.index 9 (.string ⟨(c :: u).toArray⟩) (.int .i64 0)).run Try.prog W = .ok (bv c) W := fun W => HIX.out W (c :: u) 0 c rfl
          have HSG := Lib.hid (fun W => r13sign_any W c.toNat)
          have hlp : decide ((0 : Int) < ((c :: u).length : Int)) = true := decide_eq_true (by simp)
          have hlp2 : decide (0 < (c :: u).length) = true := decide_eq_true (by simp)
          have q2 : decide (0 < sgnN c.toNat) = B1 := e.symm
          have q : decide ((0 : Int) < (sgnN c.toNat : Int)) = B1 := by
            rw [e]
            by_cases h : 0 < sgnN c.toNat
            · rw [decide_eq_true h, decide_eq_true (by omega)]
            · rw [decide_eq_false h, decide_eq_false (by omega)]
          clear hB1 e
          unfold bv at i0
          generalize ByteArray.mk (c :: u).toArray = S at *
          generalize (c :: u).length = m at *
          generalize sgnN c.toNat = sg at *
          generalize c.toNat = cn at *
          go_wp2_with (go_at_call 51; refine (HSG.out _).mono ?_; rintro e w' ⟨rfl, rfl⟩)
          go_meet
          exact ⟨by first | rfl | exact congrArg Value.bool q | exact congrArg Value.bool q2, rfl⟩
      case rest =>
        obtain ⟨rfl, rfl⟩ := hcut
        clear hB1
        go_upto_if 48 with fail
        go_cut [0, 1] from 49 to 53 (fun v0 v1 wc => v0 = .string ⟨l1.toArray⟩ ∧ v1 = .int .u32 (b1 : Int) ∧ w = wc)
        case first =>
          cases l with
          | nil =>
            have e : B1 = false := HB1.out
            subst e
            have e2 : (([] : List UInt8), b) = (l1, b1) := H1.out
            injection e2 with e2 e3
            subst e2 e3
            go_wp2_with fail
            go_meet
            exact ⟨rfl, rfl, rfl⟩
          | cons c u =>
            have e : B1 = decide (0 < sgnN c.toNat) := HB1.out
            have e2 : (if sgnN c.toNat = 0 then (c :: u, b) else (u, sgnN c.toNat)) = (l1, b1) := H1.out
            by_cases hz : sgnN c.toNat = 0
            · rw [if_pos hz] at e2
              rw [decide_eq_false (by omega)] at e
              injection e2 with e2 e3
              subst e e2 e3
              clear hz
              go_wp2_with fail
              go_meet
              exact ⟨rfl, rfl, rfl⟩
            · rw [if_neg hz] at e2
              rw [decide_eq_true (by omega)] at e
              injection e2 with e2 e3
              subst e e2 e3
              have i0 : ∀ W, (Instr.index 9 (.string ⟨(c :: u).toArray⟩) (.int .i64 0)).run Try.prog W = .ok (bv c) W := fun W => HIX.out W (c :: u) 0 c rfl
              have s1 : ∀ W, (Instr.slice 9 (.string ⟨(c :: u).toArray⟩) (some (.int .i64 1)) none none).run Try.prog W = .ok (.string ⟨u.toArray⟩) W := fun W => HFR.out W (c :: u) 1 (by simp)
              have HSG := Lib.hid (fun W => r13sign_any W c.toNat)
              unfold bv at i0
              generalize ByteArray.mk (c :: u).toArray = S at *
              generalize ByteArray.mk u.toArray = S1 at *
              generalize sgnN c.toNat = sg at *
              generalize c.toNat = cn at *
              clear hz
              go_wp2_with (go_at_call 51; refine (HSG.out _).mono ?_; rintro e w' ⟨rfl, rfl⟩)
              go_meet
              exact ⟨rfl, rfl, rfl⟩
        case rest =>
          obtain ⟨rfl, rfl, rfl⟩ := hcut
          clear H1 HB1
          go_upto_region 7 with fail
          obtain ⟨B2, hB2⟩ : ∃ B2 : Bool, B2 = begM l1 := ⟨_, rfl⟩
          have HB2 := Lib.hid hB2
          clear hB2
          go_cut [61] from 54 to 61 (fun v wc => v = .bool B2 ∧ w = wc)
          case first =>
            have hsz := HSZ.out l1
            cases l1 with
            | nil =>
              have e : B2 = false := HB2.out
              subst e
              simp only [List.length_nil] at hsz
              generalize ByteArray.mk ([] : List UInt8).toArray = S at *
              go_wp2_with fail
              go_meet
              exact ⟨rfl, rfl⟩
            | cons c u =>
              have e : B2 = decide (c.toNat = 45) := HB2.out
              have i0 : ∀ W, (Instr.index 9 (.string ⟨(c :: u).toArray⟩) (.int .i64 0)).run Try.prog W = .ok (bv c) W := fun W => HIX.out W (c :: u) 0 c rfl
              have hlp : decide ((0 : Int) < ((c :: u).length : Int)) = true := decide_eq_true (by simp)
              have hlp2 : decide (0 < (c :: u).length) = true := decide_eq_true (by simp)
              have q : ((c.toNat : Int) == 45) = B2 := by
                rw [e]
                by_cases h : c.toNat = 45
                · rw [decide_eq_true h, h]; rfl
                · rw [decide_eq_false h]; simp; omega
              clear e
              unfold bv at i0
              generalize ByteArray.mk (c :: u).toArray = S at *
              generalize (c :: u).length = m at *
              generalize c.toNat = cn at *
              go_wp2_with fail
              go_meet
              exact ⟨by first | rfl | exact congrArg Value.bool q, rfl⟩
          case rest =>
            obtain ⟨rfl, rfl⟩ := hcut
            go_upto_if 61 with fail
            go_cut [0, 8] from 62 to 63 (fun v0 v8 wc => v0 = .string ⟨l2.toArray⟩ ∧ v8 = .bool mi ∧ w = wc)
            case first =>
              cases l1 with
              | nil =>
                have e : B2 = false := HB2.out
                subst e
                have e2 : (([] : List UInt8), false) = (l2, mi) := H2.out
                injection e2 with e2 e3
                subst e2 e3
                go_wp2_with fail
                go_meet
                exact ⟨rfl, rfl, rfl⟩
              | cons c u =>
                have e : B2 = decide (c.toNat = 45) := HB2.out
                have e2 : (if c.toNat = 45 then (u, true) else (c :: u, false)) = (l2, mi) := H2.out
                by_cases hz : c.toNat = 45
                · rw [if_pos hz] at e2
                  rw [decide_eq_true hz] at e
                  injection e2 with e2 e3
                  subst e e2 e3
                  have s1 : ∀ W, (Instr.slice 9 (.string ⟨(c :: u).toArray⟩) (some (.int .i64 1)) none none).run Try.prog W = .ok (.string ⟨u.toArray⟩) W := fun W => HFR.out W (c :: u) 1 (by simp)
                  generalize ByteArray.mk (c :: u).toArray = S at *
                  generalize ByteArray.mk u.toArray = S1 at *
                  clear hz
                  go_wp2_with fail
                  go_meet
                  exact ⟨rfl, rfl, rfl⟩
                · rw [if_neg hz] at e2
                  rw [decide_eq_false hz] at e
                  injection e2 with e2 e3
                  subst e e2 e3
                  clear hz
                  go_wp2_with fail
                  go_meet
                  exact ⟨rfl, rfl, rfl⟩
            case rest =>
              obtain ⟨rfl, rfl, rfl⟩ := hcut
              clear H2 HB2
              go_upto_region 10 with fail
              go_cut [74] from 64 to 74 (fun v wc => v = .bool d ∧ w = wc)
              case first =>
                have hsz := HSZ.out l2
                by_cases h0 : l2 = []
                · subst h0
                  have e : d = false := (congrArg Prod.snd H3.out).symm
                  subst e
                  simp only [List.length_nil] at hsz
                  generalize ByteArray.mk ([] : List UInt8).toArray = S at *
                  go_wp2_with fail
                  go_meet
                  exact ⟨rfl, rfl⟩
                · obtain ⟨k, c, rfl⟩ : ∃ k c, l2 = k ++ [c] := ⟨l2.dropLast, l2.getLast h0, (List.dropLast_concat_getLast h0).symm⟩
                  have ix : ∀ W, (Instr.index 9 (.string ⟨(k ++ [c]).toArray⟩) (.int .i64 (k.length : Int))).run Try.prog W = .ok (bv c) W := fun W => HIX.out W (k ++ [c]) k.length c (by simp)
                  have e : d = decide (c.toNat = 45 + 1) := by
                    have h : d = (cutP (k ++ [c])).2 := (congrArg Prod.snd H3.out).symm
                    rw [h]
                    unfold cutP
                    by_cases hc : c = 46
                    · subst hc
                      rw [if_pos (by simp)]
                      rfl
                    · rw [if_neg (by simpa using hc)]
                      symm
                      exact decide_eq_false (fun hh => hc (UInt8.toNat_inj.1 hh))
                  have q : ((c.toNat : Int) == 46) = d := by
                    rw [e]
                    by_cases h : c.toNat = 45 + 1
                    · rw [decide_eq_true h, h]; rfl
                    · rw [decide_eq_false h]; simp; omega
                  have hmx : (k ++ [c]).length = k.length + 1 := by simp
                  rw [hmx] at hsz
                  obtain ⟨M, hM⟩ : ∃ M, M = k.length + 1 := ⟨_, rfl⟩
                  have hK := HK.out
                  rw [hmx] at hK
                  rw [← hM] at hsz hK
                  have hM1 : (M : Int) - 1 = (k.length : Int) := by omega
                  have hp : decide ((0 : Int) < (M : Int)) = true := decide_eq_true (by omega)
                  have hp2 : decide (0 < M) = true := decide_eq_true (by omega)
                  have hM2 : (M : Int) ≤ 9223372036854775807 := by omega
                  have hkl : k.length < M := by omega
                  clear e hmx hK hM h0
                  unfold bv at ix
                  generalize ByteArray.mk (k ++ [c]).toArray = S at *
                  generalize k.length = kl at *
                  generalize c.toNat = cn at *
                  go_wp2_with fail
                  go_meet
                  exact ⟨by first | rfl | exact congrArg Value.bool q, rfl⟩
              case rest =>
                obtain ⟨rfl, rfl⟩ := hcut
                go_upto_if 74 with fail
                go_cut [0, 9] from 75 to 79 (fun v0 v9 wc => v0 = .string ⟨l3.toArray⟩ ∧ v9 = .bool d ∧ w = wc)
                case first =>
                  by_cases h0 : l2.getLast? = some 46
                  · have e : cutP l2 = (l2.dropLast, true) := if_pos h0
                    have e2 := H3.out
                    rw [e] at e2
                    injection e2 with e2 e3
                    subst e2 e3
                    have hne : l2 ≠ [] := by rintro rfl; simp at h0
                    have hp : 1 ≤ l2.length := by cases l2; exact absurd rfl hne; simp
                    obtain ⟨m, hm⟩ : ∃ m, l2.length = m + 1 := ⟨l2.length - 1, by omega⟩
                    have s1 : ∀ W, (Instr.slice 9 (.string ⟨l2.toArray⟩) none (some (.int .i64 (m : Int))) none).run Try.prog W = .ok (.string ⟨l2.dropLast.toArray⟩) W := fun W => by
                      have h := HTO.out W l2 m (by omega)
                      rw [show l2.take m = l2.dropLast by rw [List.dropLast_eq_take, hm]; rfl] at h
                      exact h
                    have hsz := HSZ.out l2
                    have hK := HK.out
                    rw [hm] at hsz hK
                    obtain ⟨M, hM⟩ : ∃ M, M = m + 1 := ⟨_, rfl⟩
                    rw [← hM] at hsz hK
                    have hM1 : (M : Int) - 1 = (m : Int) := by omega
                    have hM2 : (M : Int) ≤ 9223372036854775807 := by omega
                    have hmM : m < M := by omega
                    clear h0 e hne hp hm hK hM
                    generalize ByteArray.mk l2.dropLast.toArray = S1 at *
                    generalize ByteArray.mk l2.toArray = S at *
                    go_wp2_with fail
                    go_meet
                    exact ⟨rfl, rfl, rfl⟩
                  · have e : cutP l2 = (l2, false) := if_neg h0
                    have e2 := H3.out
                    rw [e] at e2
                    injection e2 with e2 e3
                    subst e2 e3
                    clear h0 e
                    go_wp2_with fail
                    go_meet
                    exact ⟨rfl, rfl, rfl⟩
                case rest =>
                  obtain ⟨rfl, rfl, rfl⟩ := hcut
                  clear H3
                  generalize ByteArray.mk l3.toArray = S3 at *
                  cases V with
                  | none =>
                    have e : RV = ⟨0, 0, false, false⟩ := HRV.out
                    subst e
                    simp only [Option.getD_none, Option.isSome_none] at HD
                    go_wp2_with (go_at_call 52; refine (HD.out _).mono ?_; rintro e w' ⟨rfl, rfl⟩)
                    exact bodyPost_ret (v := .tuple #[.int .u32 0, .int .u32 0, .bool false, .bool false]) (by simp [results, Try.results27, go_sem]) rfl ⟨rfl, rfl⟩
                  | some n =>
                    have hn := HVL.out n rfl
                    simp only [Option.getD_some, Option.isSome_some] at HD
                    obtain ⟨NV, hNV⟩ : ∃ NV : Int, NV = (n : Int) := ⟨_, rfl⟩
                    rw [← hNV] at HD
                    obtain ⟨z, hz⟩ : ∃ z, z = if mi then negN n else n := ⟨_, rfl⟩
                    obtain ⟨ZV, hZV⟩ : ∃ ZV : Int, ZV = (z : Int) := ⟨_, rfl⟩
                    have hzz : z < 18446744073709551616 ∧ (mi = true → IntKind.u64.wrap (-NV) = ZV) ∧ (mi = false → NV = ZV) := by
                      rw [hZV, hNV]
                      cases mi
                      · have e : z = n := hz
                        rw [e]
                        exact ⟨hn, (fun h => by cases h), (fun _ => rfl)⟩
                      · have e : z = negN n := hz
                        have h := neg_or n hn
                        rw [← e] at h
                        refine ⟨by omega, (fun _ => ?_), (fun h => by cases h)⟩
                        rw [IntKind.wrap_u64]
                        omega
                    obtain ⟨lo, hlo⟩ : ∃ lo, lo = z % 4294967296 := ⟨_, rfl⟩
                    obtain ⟨hi, hhi⟩ : ∃ hi, hi = z / 4294967296 := ⟨_, rfl⟩
                    have HCE := Lib.hid (fun W => show Calls Try.prog 53 #[.int .u64 ZV] W fun e w' => e = .returned (.tuple #[.int .u32 (lo : Int), .int .u32 (hi : Int)]) ∧ W = w' by
                      have k := r7Cells_any W ZV (by omega) (by omega)
                      rw [show ZV % 4294967296 = (lo : Int) by omega, show ZV / 4294967296 = (hi : Int) by omega] at k
                      exact k)
                    have n0 : 0 ≤ NV := by omega
                    have n1 : NV < 18446744073709551616 := by omega
                    have z0 : 0 ≤ ZV := by omega
                    have z1 : ZV < 18446744073709551616 := by omega
                    have rvs : (d = false ∧ 4294967296 ≤ n ∧ RV = ⟨0, 0, false, false⟩) ∨ (d = false ∧ n < 4294967296 ∧ RV = ⟨lo, 0, false, true⟩) ∨ (d = true ∧ RV = ⟨lo, hi, true, true⟩) := by
                      rw [HRV.out, hlo, hhi, hz]
                      cases d
                      · by_cases hb : 4294967296 ≤ n
                        · exact .inl ⟨rfl, hb, readV_big mi n hb⟩
                        · right; left
                          refine ⟨rfl, by omega, ?_⟩
                          cases mi
                          · exact (readV_one n (by omega)).1
                          · exact (readV_one n (by omega)).2
                      · right; right
                        refine ⟨rfl, ?_⟩
                        cases mi
                        · exact (readV_dbl n).1
                        · exact (readV_dbl n).2
                    have HZZ := Lib.hid hzz.2
                    clear hz hzz hlo hhi hn hZV
                    rcases rvs with ⟨rfl, hb, rfl⟩ | ⟨rfl, hb, rfl⟩ | ⟨rfl, rfl⟩
                    · have q : decide ((4294967295 : Int) < NV) = true := decide_eq_true (by omega)
                      clear hb hNV
                      go_wp2_with (go_at_call 52; refine (HD.out _).mono ?_; rintro e w' ⟨rfl, rfl⟩)
                      exact bodyPost_ret (v := .tuple #[.int .u32 0, .int .u32 0, .bool false, .bool false]) (by simp [results, Try.results27, go_sem]) rfl ⟨rfl, rfl⟩
                    · have q : decide ((4294967295 : Int) < NV) = false := decide_eq_false (by omega)
                      clear hb hNV
                      cases mi
                      · obtain rfl := HZZ.out.2 rfl
                        go_wp2_with (first
                          | (go_at_call 52; refine (HD.out _).mono ?_; rintro e w' ⟨rfl, rfl⟩)
                          | (go_at_call 53; refine (HCE.out _).mono ?_; rintro e w' ⟨rfl, rfl⟩))
                        exact bodyPost_ret (v := .tuple #[.int .u32 (lo : Int), .int .u32 0, .bool false, .bool true]) (by simp [results, Try.results27, go_sem]) rfl ⟨rfl, rfl⟩
                      · have e := HZZ.out.1 rfl
                        go_wp2_with (first
                          | (go_at_call 52; refine (HD.out _).mono ?_; rintro e w' ⟨rfl, rfl⟩)
                          | (go_at_call 53; refine (HCE.out _).mono ?_; rintro e w' ⟨rfl, rfl⟩))
                        exact bodyPost_ret (v := .tuple #[.int .u32 (lo : Int), .int .u32 0, .bool false, .bool true]) (by simp [results, Try.results27, go_sem]) rfl ⟨rfl, rfl⟩
                    · clear hNV
                      cases mi
                      · obtain rfl := HZZ.out.2 rfl
                        go_wp2_with (first
                          | (go_at_call 52; refine (HD.out _).mono ?_; rintro e w' ⟨rfl, rfl⟩)
                          | (go_at_call 53; refine (HCE.out _).mono ?_; rintro e w' ⟨rfl, rfl⟩))
                        exact bodyPost_ret (v := .tuple #[.int .u32 (lo : Int), .int .u32 (hi : Int), .bool true, .bool true]) (by simp [results, Try.results27, go_sem]) rfl ⟨rfl, rfl⟩
                      · have e := HZZ.out.1 rfl
                        go_wp2_with (first
                          | (go_at_call 52; refine (HD.out _).mono ?_; rintro e w' ⟨rfl, rfl⟩)
                          | (go_at_call 53; refine (HCE.out _).mono ?_; rintro e w' ⟨rfl, rfl⟩))
                        exact bodyPost_ret (v := .tuple #[.int .u32 (lo : Int), .int .u32 (hi : Int), .bool true, .bool true]) (by simp [results, Try.results27, go_sem]) rfl ⟨rfl, rfl⟩
end Go.Proofs.Ytfnjjanknfmibaa
