/-
  The document's Right, Check.
-/
import Derived.Test.YtfnjjanknfmibaaPmRefF
namespace Go.Proofs.Ytfnjjanknfmibaa
open Go.RowKit Go.Deep Go.BigFrame
set_option linter.unusedVariables false

/-- A world behind another one, whose blocks it has. -/
structure After (w : World) where
  U : World
  k : Keeps [] w U

theorem wp_region_class {P : Program} {id : Nat} {Q : Exit → Act → World → Prop} {a : Act} {w : World} {l : List Oper} {S : Type} (f : S → World) (s0 : S) (hm : P.follows .mixedOrders = true) (hB : Region.lexB .any l.toArray = true) (h0 : w.drew = f s0)
    (h : wpQuiet P l.toArray (fun w' => ∃ n, w' = f n) (fun a' => ∀ w', (∃ n, w' = f n) → Q .normal a' w') l a) : (Code.region id l.toArray true).wp P Q a w :=
  wp_region_quiet (C := fun w' => ∃ n, w' = f n) hm hB ⟨s0, h0⟩ (by simpa using h)

set_option maxRecDepth 100000 in
set_option maxHeartbeats 4000000 in
theorem r11Right_any (w : World) (P : Nat → Prop) (v : Value) (l : List Wd) (hw : WordsIn w P v l) (hl : l.length ≤ 1000000) (hcl : ∀ x ∈ l, x.code.length ≤ 2000000) (i : Nat) (hi : i < l.length) :
    Calls Try.prog 38 #[v, .int .i64 (i : Int)] w fun e w' => e = .returned (.bool (rightAt l i)) ∧ Keeps [] w w' := by
  have hne : l ≠ [] := by intro e; rw [e] at hi; simp at hi
  have HONE := Lib.hid (fun W (hk : Keeps [] w W) (k : Nat) (hks : k ∈ startsD (wordI l i).code) => r11one_any W P v l (hw.next hk) hl hcl i k hi hks)
  obtain ⟨B, o, cap, rfl, hcap, _, _, hBw, hat⟩ := hw.at hne
  have hget := wordI_get hi
  obtain ⟨a, ccap, M, off, hname, hflag, hcell, hur, _, _, _⟩ := hat i _ hget
  have hclen := hcl _ (List.mem_of_getElem? hget)
  have HR := Lib.hid (fun W => r10Right_any W (wordI l i) a ccap (rightW (wordI l i)) rfl)
  have HS := Lib.hid (r11Starts_any w _ _ M off hur hclen)
  have hln : (startsD (wordI l i).code).length ≤ 2000000 := by
    unfold startsD
    cases hs : startsC (wordI l i).code with
    | none => simp
    | some s => have := went_length (starts_went hs); simpa using Nat.le_trans this hclen
  have HLT := Lib.hid (fun k (hk : k ∈ startsD (wordI l i).code) => (starts_long hk).1)
  have HCE := Lib.hid (show ∀ q, q < (wordI l i).code.length → w.cell? ⟨M, off + q, none⟩ = some (.int .u32 (((wordI l i).code.getD q 0).toNat : Int)) ∧ a = some ⟨M, off, none⟩ from fun q hq => by
    obtain ⟨y, hy⟩ : ∃ y, (wordI l i).code[q]? = some y := ⟨_, List.getElem?_eq_getElem hq⟩
    obtain ⟨cp, e, h, _⟩ := hur.cell' hy
    injection e with e _ _
    exact ⟨by rw [h, List.getD_eq_getElem?_getD, hy]; rfl, e⟩)
  unfold rightAt
  have HALL := Lib.hid (fun (w' : World) (v' : Value) (q : Bool) (hs : startsV w' w.heap.size (wordI l i).code v' q) => show Ints w' w.heap.size v' (startsD (wordI l i).code) ∧ q = (startsC (wordI l i).code).isSome from by
    unfold startsD
    rcases hs with ⟨h1, h2, h3⟩ | ⟨s, h1, h2, h3⟩
    · rw [h1, h2, h3]; exact ⟨Ints.nil _ _, rfl⟩
    · rw [h1, h3]; exact ⟨h2, rfl⟩)
  have hwhole : wholeC (wordI l i).code = ((startsC (wordI l i).code).isSome && !(startsD (wordI l i).code).isEmpty && decide (((wordI l i).code.getD ((startsD (wordI l i).code).getLastD 0) 0).toNat = 101)) := by
    unfold wholeC startsD cellN
    cases startsC (wordI l i).code with
    | none => rfl
    | some s => simp
  rw [hwhole]
  have HMAY := Lib.hid (rfl : (fun k => mayC l i ((wordI l i).code.drop k) (startsD (wordI l i).code)) = fun k => mayC l i ((wordI l i).code.drop k) (startsD (wordI l i).code))
  unfold wvl at HR
  have HNM := Lib.hid (And.intro hname (And.intro hflag hcell))
  clear hwhole hat hget hw hur hname hflag hcell hne HMAY hclen hcl
  generalize hmay : (fun k => mayC l i ((wordI l i).code.drop k) (startsD (wordI l i).code)) = may at *
  have HONE2 := Lib.hid (show ∀ W, Keeps [] w W → ∀ k : Nat, k ∈ startsD (wordI l i).code → Calls Try.prog 70 #[.slice (some ⟨B, o, none⟩) l.length cap, .int .i64 (i : Int), .int .i64 (k : Int)] W fun e w' => e = .returned (.bool (may k)) ∧ Keeps [] W w' from fun W hk k hks => by
    rw [← hmay]
    exact HONE.out W hk k hks)
  clear HONE hmay
  generalize rightW (wordI l i) = RW at *
  generalize (startsC (wordI l i).code).isSome = WS at *
  generalize startsD (wordI l i).code = SD at *
  generalize (wordI l i).code = c at *
  have HNM1 := Lib.hid HNM.out.1
  unfold str bv at *
  generalize ByteArray.mk (wordI l i).name.toArray = nm at *
  generalize ((wordI l i).flags.toNat : Int) = fl at *
  obtain ⟨N, hN⟩ : ∃ N, N = l.length := ⟨_, rfl⟩
  rw [← hN] at hi hl hcap HONE2 ⊢
  clear hN HNM1
  have hiI : (i : Int) < (N : Int) := by omega
  obtain ⟨n, hn⟩ : ∃ n, n = c.length := ⟨_, rfl⟩
  rw [← hn] at HNM HS HR HCE HLT
  clear hn
  have n0 := HNM.out.1
  have n1 := HNM.out.2.1
  have n2 := HNM.out.2.2
  generalize hq : (RW && (WS && !SD.isEmpty && decide ((c.getD (SD.getLastD 0) 0).toNat = 101) && SD.all may)) = q
  have HQ := Lib.hid hq
  clear hq
  go_enter Try.func38, Try.ntmps38
  go_upto_region 2 with (go_at_call 19; refine HS.out.mono ?_; rintro e w1 ⟨v1, q1, rfl, hs, hk⟩; have HI := Lib.hid (HALL.out _ _ _ hs); have HK := Lib.hid hk; clear hs hk)
  obtain ⟨la, lc, rfl, hcp2, hcl⟩ := HI.out.1.shape
  have hqq : WS = q1 := HI.out.2.symm
  subst hqq
  have HCL := Lib.hid hcl
  have HRQ := Lib.hid (show ∀ z : After w1, Calls Try.prog 69 #[.agg #[.string nm, .int .u8 fl, .slice a n ccap]] z.U (fun e w' => e = .returned (.bool RW) ∧ ∃ m : After w1, w' = m.U) from fun z => (HR.out z.U).mono fun e w' h => ⟨h.1, ⟨w', z.k.trans h.2⟩, rfl⟩)
  have z0 : ∀ z : After w1, z.U.cell? ⟨B, o + i * 3, none⟩ = some (.string nm) := fun z => (HK.out.trans z.k).cell n0 (by simp)
  have z1 : ∀ z : After w1, z.U.cell? ⟨B, o + i * 3 + 1, none⟩ = some (.int .u8 fl) := fun z => (HK.out.trans z.k).cell n1 (by simp)
  have z2 : ∀ z : After w1, z.U.cell? ⟨B, o + i * 3 + 2, none⟩ = some (.slice a n ccap) := fun z => (HK.out.trans z.k).cell n2 (by simp)
  haveI : Nonempty (After w1) := ⟨⟨w1, Keeps.refl [] _⟩⟩
  clear HI HALL hcl HR HS HNM n0 n1 n2
  cases RW with
  | false =>
    have HWH := Lib.hid (show q = false by rw [← HQ.out, Bool.false_and])
    clear HQ
    refine wp_region_class (S := After w1) After.U ⟨w1.drew, Keeps.drew [] w1⟩ (by kernel_rfl) (by kernel_rfl) rfl ?_
    repeat (go_big_quiet_step ((go_at_call 69; exact HRQ.out _)))
    refine wpQuiet_nil ?_
    rintro _ ⟨nq, rfl⟩
    have KL := Lib.hid nq.k
    generalize nq.U = wq at *
    go_wp2
    go_ret
    exact ⟨by rw [HWH.out]; rfl, HK.out.trans KL.out⟩
  | true =>
    cases WS with
    | false =>
      have HWH := Lib.hid (show q = false by rw [← HQ.out, Bool.false_and, Bool.false_and, Bool.false_and, Bool.and_false])
      clear HQ
      refine wp_region_class (S := After w1) After.U ⟨w1.drew, Keeps.drew [] w1⟩ (by kernel_rfl) (by kernel_rfl) rfl ?_
      repeat (go_big_quiet_step ((go_at_call 69; exact HRQ.out _)))
      refine wpQuiet_nil ?_
      rintro _ ⟨nq, rfl⟩
      have KL := Lib.hid nq.k
      generalize nq.U = wq at *
      go_wp2
      go_ret
      exact ⟨by rw [HWH.out]; rfl, HK.out.trans KL.out⟩
    | true =>
      by_cases hse : SD = []
      · subst hse
        have HWH := Lib.hid (show q = false by rw [← HQ.out]; rfl)
        simp only [List.length_nil] at *
        clear HQ HCL
        refine wp_region_class (S := After w1) After.U ⟨w1.drew, Keeps.drew [] w1⟩ (by kernel_rfl) (by kernel_rfl) rfl ?_
        repeat (go_big_quiet_step ((go_at_call 69; exact HRQ.out _)))
        refine wpQuiet_nil ?_
        rintro _ ⟨nq, rfl⟩
        have KL := Lib.hid nq.k
        generalize nq.U = wq at *
        go_wp2
        go_ret
        exact ⟨by rw [HWH.out]; rfl, HK.out.trans KL.out⟩
      · obtain ⟨M2, rfl, hbM, hM2, hcell⟩ := HCL.out hse
        obtain ⟨m, hm⟩ : ∃ m, m + 1 = SD.length := ⟨SD.length - 1, by have := List.length_pos_iff.2 hse; omega⟩
        obtain ⟨kl, hkl⟩ : ∃ kl, SD[m]? = some kl := ⟨_, List.getElem?_eq_getElem (by omega)⟩
        have hlast : SD.getLastD 0 = kl := by
          rw [List.getLastD_eq_getLast?, List.getLast?_eq_getElem?, show SD.length - 1 = m by omega, hkl]; rfl
        have hkn := HLT.out kl (List.mem_of_getElem? hkl)
        obtain ⟨hk0, rfl⟩ := HCE.out kl hkn
        have hi0 := hcell m kl hkl
        have z3 : ∀ z : After w1, z.U.cell? ⟨M2, m, none⟩ = some (.int .i64 (kl : Int)) := fun z => z.k.cell hi0 (by simp)
        have hse' : SD.isEmpty = false := by simpa using hse
        have z4 : ∀ z : After w1, z.U.cell? ⟨M, off + kl, none⟩ = some (.int .u32 ((c.getD kl 0).toNat : Int)) := fun z => (HK.out.trans z.k).cell hk0 (by simp)
        rw [hlast, hse', Bool.not_false, Bool.true_and, Bool.true_and, Bool.true_and] at HQ
        obtain ⟨X, hX⟩ : ∃ X, X = (c.getD kl 0).toNat := ⟨_, rfl⟩
        rw [← hX] at HQ
        simp only [← hX] at z4
        have HCELL := Lib.hid hcell
        obtain ⟨n2, hn2⟩ : ∃ n2, n2 = SD.length := ⟨_, rfl⟩
        have HN2 := Lib.hid hn2
        rw [← hn2] at hcp2 hln ⊢
        have e2 : IntKind.i64.wrap ((n2 : Int) - 1) = (m : Int) := by rw [show (n2 : Int) - 1 = (m : Int) by omega]; exact IntWalk.i64_in _ (by omega)
        have hmn : (m : Int) < (n2 : Int) := by omega
        have hmn0 : ¬ ((n2 : Int) = 0) := by omega
        have hmnb : ((n2 : Int) == 0) = false := by simp; omega
        have hklc : (kl : Int) < (n : Int) := by omega
        have hmN : m < n2 := by omega
        have hn20 : ¬ (n2 = 0) := by omega
        clear hm hkl hlast hk0 hi0 hse' hcell hX hn2 hse HCE HCL
        by_cases hX : X = 101
        · subst hX
          have HQ2 := Lib.hid (show q = SD.all may by rw [← HQ.out]; rfl)
          clear HQ
          refine wp_region_class (S := After w1) After.U ⟨w1.drew, Keeps.drew [] w1⟩ (by kernel_rfl) (by kernel_rfl) rfl ?_
          repeat (go_big_quiet_step ((go_at_call 69; exact HRQ.out _)))
          refine wpQuiet_nil ?_
          rintro _ ⟨nq, rfl⟩
          have KL := Lib.hid nq.k
          generalize nq.U = wq at *
          clear z0 z1 z2 z3 z4 HRQ e2 hmn hmn0 hmnb hklc hmN hn20 hkn
          go_wp2
          go_loopw [7] (fun x wr => ∃ k : Nat, k ≤ n2 ∧ x = .int .i64 (k : Int) ∧ Hid (∀ j, j < k → ∀ q, SD[j]? = some q → may q = true) ∧ Hid (Keeps [] w1 wr)) (fun x _ => n2 - (intOf x).toNat)
          case atStart => exact ⟨0, by omega, rfl, fun j hj => by omega, KL.out⟩
          case round =>
            obtain ⟨k, hk, rfl, HAL, HKR⟩ := hrel
            by_cases hlt : k < n2
            · have hlt' : (k : Int) < (n2 : Int) := by omega
              obtain ⟨q0, hq0⟩ : ∃ q0, SD[k]? = some q0 := ⟨_, List.getElem?_eq_getElem (by rw [← HN2.out]; exact hlt)⟩
              have hc0 := HKR.out.cell (HCELL.out k q0 hq0) (by simp)
              have HO := Lib.hid (HONE2.out wr (HK.out.trans HKR.out) q0 (List.mem_of_getElem? hq0))
              have HNX := Lib.hid hq0
              clear hq0
              cases hmay : may q0 with
              | false =>
                rw [hmay] at HO
                have HWH := Lib.hid (show q = false by
                  rw [HQ2.out, List.all_eq_false]
                  exact ⟨q0, List.mem_of_getElem? HNX.out, by rw [hmay]; decide⟩)
                clear hmay
                go_wp2_with (go_at_call 70; refine HO.out.mono ?_; rintro e w7 ⟨rfl, hk7⟩; have HK7 := Lib.hid hk7; clear hk7)
                go_ret
                exact ⟨by rw [HWH.out]; rfl, (HK.out.trans HKR.out).trans HK7.out⟩
              | true =>
                rw [hmay] at HO
                have HMAY := Lib.hid hmay
                clear hmay
                go_wp2_with (go_at_call 70; refine HO.out.mono ?_; rintro e w7 ⟨rfl, hk7⟩; have HK7 := Lib.hid hk7; clear hk7)
                go_roundw
                case rel => exact ⟨k + 1, by omega, by go_num, fun j hj q hq => by
                  by_cases he : j = k
                  · subst he
                    have := HNX.out
                    rw [hq] at this; injection this with this; subst this
                    exact HMAY.out
                  · exact HAL.out j (by omega) q hq, HKR.out.trans HK7.out⟩
                case measure => simp [intOf]; omega
            · obtain rfl : k = n2 := by omega
              have hlt' : ¬ (k : Int) < (k : Int) := by omega
              have HWH := Lib.hid (show q = true by
                rw [HQ2.out, List.all_eq_true]
                intro x hx
                obtain ⟨j, hj⟩ := List.mem_iff_getElem?.1 hx
                exact HAL.out j (by have := (List.getElem?_eq_some_iff.1 hj).1; have := HN2.out; omega) x hj)
              clear hlt
              go_wp2
              go_ret
              exact ⟨by rw [HWH.out]; rfl, HK.out.trans HKR.out⟩
        · have HWH := Lib.hid (show q = false by rw [← HQ.out, decide_eq_false hX, Bool.false_and])
          clear HQ
          have hX' : ¬ ((X : Int) = 101) := by omega
          have hXb : ((X : Int) != 101) = true := by simp; omega
          refine wp_region_class (S := After w1) After.U ⟨w1.drew, Keeps.drew [] w1⟩ (by kernel_rfl) (by kernel_rfl) rfl ?_
          repeat (go_big_quiet_step ((go_at_call 69; exact HRQ.out _)))
          refine wpQuiet_nil ?_
          rintro _ ⟨nq, rfl⟩
          have KL := Lib.hid nq.k
          generalize nq.U = wq at *
          go_wp2
          go_ret
          exact ⟨by rw [HWH.out]; rfl, HK.out.trans KL.out⟩
end Go.Proofs.Ytfnjjanknfmibaa
