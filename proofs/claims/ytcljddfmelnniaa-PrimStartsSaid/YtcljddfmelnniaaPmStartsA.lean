/-
  PrimStarts: instructions of whole code stand one behind the other; code behind code; code cut off.
-/
import Derived.Test.YtcljddfmelnniaaPmInts
namespace Go.Proofs.Ytcljddfmelnniaa
open Go.RowKit Go.Deep
set_option linter.unusedVariables false

theorem take_contains {l : List Nat} {j s : Nat} (h : l[j]? = some s) (k : Nat) : (l.take (j + 1)).contains k = ((l.take j).contains k || decide (s = k)) := by
  rw [List.take_add_one, h, Bool.eq_iff_iff, Bool.or_eq_true, decide_eq_true_eq, List.contains_iff_mem, List.contains_iff_mem, List.mem_append]
  constructor
  · rintro (h1 | h1)
    · exact .inl h1
    · exact .inr (List.mem_singleton.1 h1).symm
  · rintro (h1 | h1)
    · exact .inl h1
    · exact .inr (by subst h1; exact List.mem_singleton.2 rfl)

theorem cut_whole {a : List (BitVec 32)} {sx : List Nat} (h : startsC a = some sx) {k : Nat} (hk : k ≤ a.length) : (startsC (a.take k)).isSome = (sx.contains k || decide (k = a.length)) := by
  have hw := starts_went h
  rcases went_cut hw hk with h1 | ⟨h1, h2, h3⟩
  · have : (sx.contains k || decide (k = a.length)) = true := by simpa using h1
    rw [this]
    rcases h1 with h1 | h1
    · obtain ⟨i, hi⟩ := List.mem_iff_getElem?.1 h1
      have h4 := went_take (m := k) (went_at hw i k hi).1 (Nat.le_refl _)
      have : (a.take k).length = k := by rw [List.length_take]; omega
      rw [went_done (by rw [this]; exact h4)]; rfl
    · rw [h1, List.take_length, h]; rfl
  · rw [h3]
    have : (sx.contains k || decide (k = a.length)) = false := by simp [h1, h2]
    rw [this]; rfl

theorem longAt_nat {c : List (BitVec 32)} {k : Nat} (h : k < c.length) : longAt c (k : Int) = longC (c.drop k) := by
  unfold longAt
  rw [if_pos (by omega), Int.toNat_natCast]

set_option maxRecDepth 100000 in
set_option maxHeartbeats 8000000 in
theorem PrimStarts_any (w : World) (va vb : Value) (a b : List (BitVec 32)) (Ma oa Mb ob : Nat) (ha : UReads w va a Ma oa) (hb : UReads w vb b Mb ob) (hla : a.length ≤ maxLen) (hlb : b.length ≤ maxLen) (c : Nat) (hc : c < 256) :
    Calls Try.prog 4 #[va, vb, .int .u8 (c : Int)] w fun e w' => e = .returned (.bool true) ∧ Keeps [] w w' := by
  obtain ⟨aa, ca, rfl, hca⟩ := ha.shape
  obtain ⟨ab, cb, rfl, hcb⟩ := hb.shape
  have HA := Lib.hid ha
  have HB := Lib.hid hb
  have HAW := Lib.hid awake11_any
  obtain ⟨n, hn⟩ : ∃ n, n = a.length := ⟨_, rfl⟩
  obtain ⟨m, hm⟩ : ∃ m, m = b.length := ⟨_, rfl⟩
  have HN := Lib.hid hn
  have HM := Lib.hid hm
  unfold maxLen at hla hlb
  rw [← hn] at hla hca ⊢
  rw [← hm] at hlb hcb ⊢
  clear ha hb
  by_cases hn2 : 200 < n
  · have hn2' : (n : Int) > 200 := by omega
    clear hn hm
    go_enter Try.func4, Try.ntmps4
    go_wp2_with (go_at_call 8; refine (HAW.out _).mono ?_; rintro e w9 ⟨rfl, hk9⟩; have HK9 := Lib.hid hk9; clear hk9)
    go_ret
    exact ⟨rfl, HK9.out⟩
  · have hn2' : ¬ (n : Int) > 200 := by omega
    by_cases hm2 : 200 < m
    · have hm2' : (m : Int) > 200 := by omega
      clear hn hm
      go_enter Try.func4, Try.ntmps4
      go_wp2_with (go_at_call 8; refine (HAW.out _).mono ?_; rintro e w9 ⟨rfl, hk9⟩; have HK9 := Lib.hid hk9; clear hk9)
      go_ret
      exact ⟨rfl, HK9.out⟩
    · have hm2' : ¬ (m : Int) > 200 := by omega
      have HSA := Lib.hid (show Calls Try.prog 17 #[.slice aa n ca] w fun e w' => StartsPost w a e w' by rw [hn]; exact Starts_any w _ a Ma oa HA.out (by omega))
      clear hn hm
      go_enter Try.func4, Try.ntmps4
      go_upto_region 4 with (go_at_call 17; refine HSA.out.mono ?_; rintro e w1 ⟨v1, q1, rfl, hs1, hk1⟩; have HS1 := Lib.hid hs1; have K1 := Lib.hid hk1; clear hs1 hk1)
      have hs1 := HS1.out
      clear HS1
      rcases hs1 with ⟨hs1, rfl, rfl⟩ | ⟨sx, hs1, hx1, rfl⟩
      · clear hs1
        go_wp2_with (go_at_call 8; refine (HAW.out _).mono ?_; rintro e w9 ⟨rfl, hk9⟩; have HK9 := Lib.hid hk9; clear hk9)
        go_ret
        exact ⟨rfl, K1.out.trans HK9.out⟩
      · obtain ⟨a1, c1, rfl, hc1, hx2⟩ := hx1.shape
        have HX := Lib.hid hx2
        have HSX := Lib.hid hs1
        have HWE := Lib.hid (starts_went hs1)
        obtain ⟨nx, hnx⟩ : ∃ nx, nx = sx.length := ⟨_, rfl⟩
        have HNX := Lib.hid hnx
        have hnxn : nx ≤ n := by rw [hnx, HN.out]; exact went_length (starts_went hs1)
        have HX1 := Lib.hid (show Ints w1 w.heap.size (.slice a1 nx c1) sx by rw [hnx]; exact hx1.lower (Nat.le_refl w.heap.size))
        rw [← hnx] at hc1 ⊢
        obtain ⟨k, hk⟩ : ∃ k, k = c % (n + 1) := ⟨_, rfl⟩
        have hkn : k ≤ n := by rw [hk]; exact Nat.lt_succ_iff.1 (Nat.mod_lt _ (by omega))
        have e1 : ((c : Int)).tmod ((n : Int) + 1) = (k : Int) := by
          rw [Int.tmod_eq_emod_of_nonneg (by omega), hk]; simp
        have e2 : IntKind.i64.wrap (c : Int) = (c : Int) := IntWalk.i64_in _ (by omega)
        have e3 : IntKind.i64.wrap ((n : Int) + 1) = (n : Int) + 1 := IntWalk.i64_in _ (by omega)
        have e4 : ¬ ((n : Int) + 1 = 0) := by omega
        have e5 : IntKind.i64.wrap (k : Int) = (k : Int) := IntWalk.i64_in _ (by omega)
        have HLO := Lib.hid fun W (hk : Keeps [] w W) (i : Int) => Long_any W _ a Ma oa (HA.out.keeps hk (by simp)) (by have := HN.out; unfold maxLen; omega) i
        rw [← HN.out] at HLO
        have HP0 := Lib.hid (posN_zero (starts_went hs1))
        clear hk hs1 hx1 hx2 hnx
        go_wp2
        go_loopw [9, 10, 53] (fun x y z wr => ∃ j : Nat, j ≤ nx ∧ x = .int .i64 (posN a sx j : Int) ∧ y = .bool ((sx.take j).contains k) ∧ z = .int .i64 (j : Int) ∧ Keeps [] w1 wr) (fun _ _ z _ => nx - (intOf z).toNat)
        case atStart => exact ⟨0, by omega, by rw [HP0.out]; rfl, by simp, rfl, Keeps.refl _ _⟩
        case round =>
          obtain ⟨j, hj, rfl, rfl, rfl, hkr⟩ := hrel
          have HK := Lib.hid hkr
          by_cases hlt : j < nx
          · have hlt' : (j : Int) < (nx : Int) := by omega
            obtain ⟨s, hs⟩ : ∃ s, sx[j]? = some s := ⟨_, List.getElem?_eq_getElem (by rw [← HNX.out]; exact hlt)⟩
            obtain ⟨M1, rfl, _, hM1, hcl⟩ := HX.out (by intro e; simp [e] at hs)
            have h0 := hkr.cell (hcl j s hs) (by simp)
            obtain ⟨_, hL0, _⟩ := went_at HWE.out j s hs
            have hsl := (went_lt HWE.out s (List.mem_of_getElem? hs)).2
            have hle := longC_le (a.drop s)
            rw [List.length_drop, ← HN.out] at hle
            have HPS := Lib.hid (posN_step HWE.out hs)
            have HTC := Lib.hid (take_contains hs k)
            have HLW := Lib.hid (HLO.out wr (K1.out.trans hkr) (s : Int))
            rw [longAt_nat hsl] at HLW
            rw [posN_at hs]
            have hsn : s < n := by rw [HN.out]; exact hsl
            clear hs hcl hsl hkr
            generalize longC (a.drop s) = L at *
            have hL1 : ¬ (L : Int) < 1 := by omega
            have hb1 : ((s : Int) != (s : Int)) = false := by simp
            have hw1 : IntKind.i64.wrap ((n : Int) - (s : Int)) = (n : Int) - (s : Int) := IntWalk.i64_in _ (by omega)
            have hg1 : ¬ (L : Int) > (n : Int) - (s : Int) := by omega
            have hw2 : IntKind.i64.wrap ((s : Int) + (L : Int)) = (s : Int) + (L : Int) := IntWalk.i64_in _ (by omega)
            generalize (sx.take j).contains k = q at *
            cases q with
            | true =>
              go_wp2_with (go_at_call 13; refine HLW.out.mono ?_; rintro e w2 ⟨rfl, hk2⟩; have K2 := Lib.hid hk2; clear hk2)
              go_roundw
              case rel => exact ⟨j + 1, by omega, by rw [HPS.out]; go_num, by rw [HTC.out, Bool.true_or], by go_num, HK.out.trans K2.out⟩
              case measure => simp [intOf]; omega
            | false =>
              by_cases hsk : s = k
              · subst hsk
                go_wp2_with (go_at_call 13; refine HLW.out.mono ?_; rintro e w2 ⟨rfl, hk2⟩; have K2 := Lib.hid hk2; clear hk2)
                go_roundw
                case rel => exact ⟨j + 1, by omega, by rw [HPS.out]; go_num, by rw [HTC.out]; simp, by go_num, HK.out.trans K2.out⟩
                case measure => simp [intOf]; omega
              · have hsk' : ¬ ((s : Int) = (k : Int)) := by omega
                go_wp2_with (go_at_call 13; refine HLW.out.mono ?_; rintro e w2 ⟨rfl, hk2⟩; have K2 := Lib.hid hk2; clear hk2)
                go_roundw
                case rel => exact ⟨j + 1, by omega, by rw [HPS.out]; go_num, by rw [HTC.out]; simp [hsk]; try omega, by go_num, HK.out.trans K2.out⟩
                case measure => simp [intOf]; omega
          · obtain rfl : j = nx := by omega
            have hlt' : ¬ (j : Int) < (j : Int) := by omega
            rw [show posN a sx j = n by rw [HNX.out, posN_end, HN.out], show sx.take j = sx from List.take_of_length_le (by rw [← HNX.out]; exact Nat.le_refl _)]
            have hb1 : ((n : Int) != (n : Int)) = false := by simp
            obtain ⟨hct, huk⟩ := HA.out.head k (by rw [← HN.out]; exact hkn)
            have hcut := fun W => run_cutU_h W aa n ca k (by omega)
            rw [hct, List.length_take, Nat.min_eq_left (by rw [← HN.out]; exact hkn)] at hcut
            rw [List.length_take, Nat.min_eq_left (by rw [← HN.out]; exact hkn)] at huk
            have HSK := Lib.hid fun W (hk : Keeps [] w W) => Starts_any W (.slice aa k ca) (a.take k) Ma oa (huk.keeps hk (by simp)) (by rw [List.length_take]; omega)
            have HSB := Lib.hid fun W (hk : Keeps [] w W) => (show Calls Try.prog 17 #[.slice ab m cb] W fun e w' => StartsPost W b e w' from by
              have := Starts_any W _ b Mb ob (HB.out.keeps hk (by simp)) (by have := HM.out; omega)
              rwa [← HM.out] at this)
            have HCW := Lib.hid (cut_whole HSX.out (k := k) (by rw [← HN.out]; exact hkn))
            rw [← HN.out] at HCW
            have HKW := Lib.hid (K1.out.trans hkr)
            clear hct huk hkr
            generalize sx.contains k = inb at *
            go_upto_region 20 with (go_at_call 17; refine (HSK.out _ HKW.out).mono ?_; rintro e w2 ⟨v2, q2, rfl, hs2, hk2⟩; have HQ2 := Lib.hid (startsV_ints hs2).2; have K2 := Lib.hid (HKW.out.trans hk2); have HI2 := Lib.hid ((HX1.out.next HK.out).next hk2); have HZ2 := Lib.hid (Nat.le_trans HK.out.size hk2.size); clear hs2 hk2)
            have hq2 := HQ2.out.trans HCW.out
            clear HQ2 HCW hcut
            have HQ := Lib.hid (show q2 = (inb || decide (k = n)) from hq2)
            clear hq2
            have hgo : (q2 = true ∧ inb = true) ∨ (q2 = true ∧ inb = false ∧ k = n) ∨ (q2 = false ∧ inb = false ∧ ¬ k = n) := by
              rw [HQ.out]
              cases inb <;> by_cases h : k = n <;> simp [h]
            clear HQ
            have HJ := Lib.hid (starts_join (b := b) HSX.out)
            rw [← HN.out] at HJ
            have hgo : (q2 = true ∧ inb = true) ∨ (q2 = true ∧ inb = false ∧ ((k : Int) == (n : Int)) = true ∧ k = n) ∨ (q2 = false ∧ inb = false ∧ ((k : Int) == (n : Int)) = false ∧ ¬ k = n) := by
              rcases hgo with h | ⟨h1, h2, h3⟩ | ⟨h1, h2, h3⟩
              · exact .inl h
              · exact .inr (.inl ⟨h1, h2, by simp; omega, h3⟩)
              · exact .inr (.inr ⟨h1, h2, by simp; omega, h3⟩)
            have HK2 := Lib.hid K2.out
            have HQ3 : ∀ q3, q3 = (startsC b).isSome → True := fun _ _ => trivial
            rcases hgo with ⟨rfl, rfl⟩ | ⟨rfl, rfl, hk1, hk2⟩ | ⟨rfl, rfl, hk1, hk2⟩
            all_goals
              go_upto_region 23 with (go_at_call 17; refine (HSB.out _ K2.out).mono ?_; rintro e w3 ⟨v3, q3, rfl, hs3, hk3⟩; have HS3 := Lib.hid (startsV_ints hs3); have K3 := Lib.hid (K2.out.trans hk3); have HI3 := Lib.hid (HI2.out.next hk3); have HZ3 := Lib.hid hk3.size; clear hs3 hk3)
              have HOE := Lib.hid (show (w3.alloc (.cells #[] 22)).ownsRow w3.heap.size 22 1 (.slice (some ⟨w3.heap.size, 0, none⟩) 0 0) ([] : List (BitVec 32)).length (([] : List (BitVec 32)).map uv) from
                Whole.owns (xs := []) (ys := []) (Whole.new w3 22 []) (Nat.le_refl _) rfl rfl (by simp))
              have HAE := Lib.hid (show UReads (w3.alloc (.cells #[] 22)) (.slice aa n ca) a Ma oa by rw [HN.out]; exact HA.out.keeps (K3.out.trans (Keeps.alloc [] _ _)) (by simp))
              have hzw := K3.out.size
              have HBE := Lib.hid fun W5 (hk : Keeps [w3.heap.size] (w3.alloc (.cells #[] 22)) W5) => (show UReads W5 (.slice ab m cb) b Mb ob by
                rw [HM.out]; exact (HB.out.keeps (K3.out.trans (Keeps.alloc [] _ _)) (by simp)).keeps hk (fun hne => by have := HB.out.lt hne; simp; omega))
              have hl1 : ([] : List (BitVec 32)).length + a.length ≤ 1000000 := by have := HN.out; simp; omega
              have hb1 : w3.heap.size ≤ (w3.alloc (.cells #[] 22)).heap.size := by simp
              have HL1 := Lib.hid hl1
              have HB1 := Lib.hid hb1
              have HL2 := Lib.hid (show ([] ++ a).length + b.length ≤ 1000000 by have := HN.out; have := HM.out; simp; omega)
              have HSJ := Lib.hid fun (W : World) (v : Value) (ho : W.ownsRow w3.heap.size 22 1 v (([] ++ a) ++ b).length ((([] ++ a) ++ b).map uv)) => (show Calls Try.prog 17 #[v] W fun e w' => StartsPost W (a ++ b) e w' from by
                obtain ⟨M, hr, _⟩ := UReads.owns ho
                exact Starts_any W v (a ++ b) M 0 (by simpa using hr) (by have := HN.out; have := HM.out; simp; omega))
              clear hl1 hb1
              go_upto_region 24 with (first
                | (go_at_call 17; refine (HSJ.out _ _ HO6.out).mono ?_; rintro e w7 ⟨v7, q7, rfl, hs7, hk7⟩; have HS7 := Lib.hid (startsV_ints hs7); have K7 := Lib.hid (HK6.out.trans hk7); have HZ6 := Lib.hid hk7; clear hs7 hk7)
                | (at_builtin; refine wpList_append_u rfl _ _ rfl w3.heap.size (.slice (some ⟨w3.heap.size, 0, none⟩) 0 0) [] rfl HOE.out (.slice aa n ca) a Ma oa rfl HAE.out HL1.out HB1.out ?_; intro v5 w5 ho5 hk5 hn5; have HO5 := Lib.hid ho5; have HBE5 := Lib.hid (HBE.out w5 hk5); have HK5 := Lib.hid hk5; have HZ5 := Lib.hid (Nat.le_trans HB1.out hk5.size); clear ho5 hk5 hn5)
                | (at_builtin; refine wpList_append_u rfl _ _ rfl w3.heap.size v5 ([] ++ a) rfl HO5.out (.slice ab m cb) b Mb ob rfl HBE5.out HL2.out HZ5.out ?_; intro v6 w6 ho6 hk6 hn6; have HO6 := Lib.hid ho6; have K36 := Lib.hid (((Keeps.alloc [] w3 _).then HK5.out (fun x hx => .inr (by simp [Value.ownBlock] at hx; omega))).then hk6 (fun x hx => .inr (HO5.out.lt x (by simpa using hx)).1)); have HK6 := Lib.hid (K3.out.trans K36.out); clear ho6 hk6 hn6))
              have h3 := HS3.out
              have h7 := HS7.out
              obtain ⟨hi3, hq3⟩ := h3
              obtain ⟨hi7, hq7⟩ := h7
              rw [HJ.out] at hq7
              have hsd : startsD (a ++ b) = ((startsC b).map fun y => sx ++ y.map (· + n)).getD [] := by unfold startsD; rw [HJ.out]
              rw [hsd] at hi7
              have HI7 := Lib.hid ((HI3.out.next K36.out).next HZ6.out)
              have HSZ := Lib.hid (show w1.heap.size ≤ w2.heap.size ∧ w2.heap.size ≤ w3.heap.size ∧ w3.heap.size ≤ w6.heap.size ∧ w6.heap.size ≤ w7.heap.size from ⟨HZ2.out, HZ3.out, K36.out.size, HZ6.out.size⟩)
              have hi3 := (hi3.next K36.out).next HZ6.out
              clear HS3 HS7 HI3 HI2 HOE HAE HBE HB1 HL1 HL2 HSJ HBE5 HO5 HO6 HK5 HZ5 K36 HZ6 HK6 hsd HJ HX
              cases hb : startsC b with
              | none =>
                rw [hb] at hq3 hq7
                simp only [Option.map_none, Option.isSome_none] at hq3 hq7
                subst hq3 hq7
                clear hb hi3 hi7
                go_wp2_with (go_at_call 8; refine (HAW.out _).mono ?_; rintro e w9 ⟨rfl, hk9⟩; have HK9 := Lib.hid hk9; clear hk9)
                go_ret
                exact ⟨rfl, K7.out.trans HK9.out⟩
              | some sy =>
                rw [hb] at hq3 hq7 hi7
                rw [show startsD b = sy by unfold startsD; rw [hb]; rfl] at hi3
                simp only [Option.map_some, Option.isSome_some, Option.getD_some] at hq3 hq7 hi7
                subst hq3 hq7
                have hyl := went_length (starts_went hb)
                have hxl := went_length HWE.out
                obtain ⟨My, hr3, hMy⟩ := hi3.reads
                obtain ⟨M7, hr7, hM7⟩ := hi7.reads
                have hr3' := hr3
                obtain ⟨ay, cy, rfl, hcy, hay, _⟩ := hr3'
                obtain ⟨ny, hny⟩ : ∃ ny, ny = sy.length := ⟨_, rfl⟩
                have HNY := Lib.hid hny
                have HR3 := Lib.hid hr3
                have HR7 := Lib.hid hr7
                have HMY := Lib.hid hMy
                have HM7 := Lib.hid hM7
                have HAY := Lib.hid hay
                have HYB := Lib.hid (show ∀ s ∈ sy, s ≤ 200 from fun s hs => by have := (went_lt (starts_went hb) s hs).2; have := HM.out; omega)
                have HLL := Lib.hid (show sx.length ≤ 200 ∧ sy.length ≤ 200 by have := HN.out; have := HM.out; omega)
                rw [← hny] at hcy ⊢
                clear hb hi3 hi7 hr3 hr7 hMy hM7 hay hny hyl hxl
                go_wp2
                go_loopw [7, 127] (fun x z wq => ∃ (i : Nat) (xv : Value), xv = x ∧ i ≤ ny ∧ z = .int .i64 (i : Int) ∧ Ints wq w.heap.size xv (sx ++ (sy.take i).map (· + n)) ∧ (∀ g, xv.ownBlock = some g → (sy ≠ [] → g ≠ My) ∧ (sx ++ sy.map (· + n) ≠ [] → g ≠ M7)) ∧ Keeps [] w wq ∧ IReads wq (.slice ay sy.length cy) sy My ∧ IReads wq v7 (sx ++ sy.map (· + n)) M7 ∧ w7.heap.size ≤ wq.heap.size) (fun _ z _ => ny - (intOf z).toNat)
                case atStart =>
                  refine ⟨0, _, rfl, by omega, rfl, by simpa using HI7.out, fun g hg => ?_, K7.out, HR3.out, HR7.out, Nat.le_refl _⟩
                  have h1 := (HX1.out.lt g hg).2
                  obtain ⟨s1, s2, s3, s4⟩ := HSZ.out
                  exact ⟨fun hne => by have := (HMY.out hne).1; omega, fun hne => by have := (HM7.out hne).1; omega⟩
                case round =>
                  obtain ⟨i, xv, rfl, hi, rfl, hint, hap, hkq, hry, hr7, hsz⟩ := hrel
                  have HINT := Lib.hid hint
                  have HAP := Lib.hid hap
                  have HKQ := Lib.hid hkq
                  have HRY := Lib.hid hry
                  have HRS := Lib.hid hr7
                  have HSQ := Lib.hid hsz
                  have hnyb : ny ≤ 200 := by have := HLL.out; have := HNY.out; omega
                  by_cases hlt2 : i < ny
                  · have hlt2' : (i : Int) < (ny : Int) := by omega
                    obtain ⟨s, hs⟩ : ∃ s, sy[i]? = some s := ⟨_, List.getElem?_eq_getElem (by rw [← HNY.out]; exact hlt2)⟩
                    have hne : sy ≠ [] := by intro e; simp [e] at hs
                    obtain rfl := HAY.out hne
                    obtain ⟨_, _, hve, _, _, hcl⟩ := hry
                    have h0 := hcl i s hs
                    obtain ⟨qv, hqv⟩ : ∃ qv, qv = s + n := ⟨_, rfl⟩
                    have hsb := HYB.out s (List.mem_of_getElem? hs)
                    have e7 : IntKind.i64.wrap ((s : Int) + (n : Int)) = (qv : Int) := by rw [show (s : Int) + (n : Int) = (qv : Int) by omega]; exact IntWalk.i64_in _ (by omega)
                    have e8 : (s : Int) + (n : Int) = (qv : Int) := by omega
                    have HQV := Lib.hid (show (sy.take (i + 1)).map (· + n) = (sy.take i).map (· + n) ++ [qv] by rw [List.take_add_one, hs, hqv]; simp)
                    have HLEN := Lib.hid (show (sx ++ (sy.take i).map (· + n)).length ≤ 2000000 by have := HLL.out; simp; omega)
                    have HBS := Lib.hid hkq.size
                    clear hint hap hkq hr7 hsz hs hve hcl hqv
                    go_wp2_with (at_builtin; refine wpList_append_i rfl _ _ rfl w.heap.size xv (sx ++ (sy.take i).map (· + n)) rfl HINT.out qv rfl HLEN.out HBS.out ?_; intro v8 w8 ho8 hk8 hn8; have HO8 := Lib.hid ho8; have HK8 := Lib.hid hk8; have HN8 := Lib.hid hn8; clear ho8 hk8 hn8)
                    go_roundw
                    case rel =>
                      have hkw8 : Keeps [] w w8 := HKQ.out.then HK8.out (fun x hx => .inr (HINT.out.lt x (by simpa using hx)).1)
                      refine ⟨i + 1, _, rfl, by omega, by go_num, by rw [HQV.out, ← List.append_assoc]; exact HO8.out, fun g hg => ?_, hkw8, HRY.out.keeps HK8.out (fun hne hx => (HAP.out My (by simpa using hx)).1 hne rfl), HRS.out.keeps HK8.out (fun hne hx => (HAP.out M7 (by simpa using hx)).2 hne rfl), Nat.le_trans HSQ.out HK8.out.size⟩
                      rcases HN8.out with h8 | h8
                      · exact HAP.out g (by rw [← h8]; exact hg)
                      · have hg8 := h8 g hg
                        have := HSQ.out
                        exact ⟨fun hne => by have := (HMY.out hne).2; omega, fun hne => by have := (HM7.out hne).2; omega⟩
                    case measure => simp [intOf]; omega
                  · obtain rfl : i = ny := by omega
                    have hlt2' : ¬ (i : Int) < (i : Int) := by omega
                    have ht : sy.take i = sy := List.take_of_length_le (by rw [← HNY.out]; exact Nat.le_refl _)
                    rw [ht] at hint
                    obtain ⟨Mx, hrx, _⟩ := hint.reads
                    have HIT := Lib.hid (show Calls Try.prog 21 #[v7, xv] _ fun e w' => e = .returned (.bool true) ∧ Keeps [] _ w' from by
                      have := ints_any _ v7 xv _ _ _ _ hr7 hrx (by have := HLL.out; simp; omega)
                      simpa using this)
                    clear hint hap hkq hry hr7 hsz ht hrx HINT HRY HRS
                    go_wp2_with (first
                      | (go_at_call 21; refine HIT.out.mono ?_; rintro e wi ⟨rfl, hki⟩; have HKI := Lib.hid (HKQ.out.trans hki); clear hki)
                      | (go_at_call 8; refine (HAW.out _).mono ?_; rintro e w9 ⟨rfl, hk9⟩; have HK9 := Lib.hid hk9; clear hk9))
                    go_ret
                    exact ⟨rfl, HKI.out.trans HK9.out⟩
end Go.Proofs.Ytcljddfmelnniaa
