/-
  Words that are right in a list: one of them.
-/
import Derived.Test.YtfnjjanknfmibaaPmAllow
namespace Go.Proofs.Ytfnjjanknfmibaa
open Go.RowKit Go.Deep
set_option linter.unusedVariables false

def RightPost (w : World) (B mb : Nat) (l : List Wd) (v : Value) (N : Nat) (q : Bool) (e : Ending) (w' : World) : Prop :=
  e = .returned (.bool q) ∧ Ck w' B mb l v (N + 1001) ∧ Keeps [mb] w w'

set_option maxRecDepth 100000 in
theorem run_cutU_drop {a : Option Addr} {cap : Nat} {c : List (BitVec 32)} {M off : Nat} {w : World} (h : UReads w (.slice a c.length cap) c M off) (k : Nat) (hk : k ≤ c.length) :
    ∃ p cp, (∀ W, (Instr.sliceAt 23 (.slice a c.length cap) (some (.int .i64 (k : Int))) none none).run Try.prog W = .ok (.slice p (c.drop k).length cp) W) ∧ UReads w (.slice p (c.drop k).length cp) (c.drop k) M (off + k) := by
  obtain ⟨p, cp, ht, hr⟩ := h.tail k hk
  exact ⟨p, cp, fun W => by rw [run_cutU_l W a c.length cap k hk, ht], hr⟩

set_option maxRecDepth 100000 in
theorem Whole.word {w : World} {b : Nat} {s : ByteArray} {f : Int} {u : Value} (h : Whole w b 59 [.string s, .int .u8 f, u]) :
    w.cell? ⟨b, 0, none⟩ = some (.string s) ∧ w.cell? ⟨b, 1, none⟩ = some (.int .u8 f) ∧ w.cell? ⟨b, 2, none⟩ = some u := ⟨h.cell 0, h.cell 1, h.cell 2⟩

set_option maxRecDepth 100000 in
set_option maxHeartbeats 4000000 in
theorem right_any (w : World) (B mb : Nat) (l : List Wd) (v : Value) (N i : Nat) (h : Ck w B mb l v N) (hi : i < l.length) (hl : l.length ≤ 1000000) (hN : N ≤ 1900000000) (hc : ∀ j, j < i → (wordI l j).code.length ≤ 1000) :
    Calls Try.prog 37 #[.pointer (some ⟨B, 0, none⟩), .int .i64 (i : Int)] w fun e w' => RightPost w B mb l v N (rightAt l i) e w' := by
  have h791 := h.list
  have HC := Lib.hid h
  have hmbw : mb < w.heap.size := by obtain ⟨n, D, ho, _⟩ := h.others; exact ho.lt
  obtain ⟨Bl, o, cap, rfl, hcap, hml, hBl, hw⟩ := h.word hi
  obtain ⟨a, cp, M, off, c0, c1, c2, hu, hM, _, hcl⟩ := hw
  have hi' : (i : Int) < (l.length : Int) := by omega
  have HR := Lib.hid fun W => Right_any W (wordI l i) a cp _ rfl
  unfold rightAt
  unfold wvl at HR
  have HCL := Lib.hid hcl
  have HRB := Lib.hid fun hr => (right_bounds (x := wordI l i) hr).2.2.2
  have HAL := Lib.hid fun W N' (hck : Ck W B mb l (.slice (some ⟨Bl, o, none⟩) l.length cap) N') hN' cv c M off hu hM hcl hlong Bm mine hm hBm => allowed_any W B mb l _ N' i hck hi hl hN' hc cv c M off hu hM hcl hlong Bm mine hm hBm
  have HT := Lib.hid fun W (hk : Keeps [] w W) hlen => tabStarts_any W B (h.tab.keeps hk (by simp)) _ (wordI l i).code M off (hu.keeps hk (by simp)) hlen
  have HU := Lib.hid hu
  have HM := Lib.hid hM
  clear h hu hM hcl
  cases hr : rightW (wordI l i) with
  | false =>
    rw [hr] at HR
    unfold str bv at *
    rw [Bool.false_and]
    clear hr HRB HAL HT
    generalize ByteArray.mk (wordI l i).name.toArray = s at *
    generalize ((wordI l i).flags.toNat : Int) = f at *
    generalize (wordI l i).code.length = cl at *
    go_enter Try.func37, Try.ntmps37
    go_wp2_with (go_at_call 66; refine (HR.out _).mono ?_; rintro e w3 ⟨rfl, hk3⟩; have HK3 := Lib.hid hk3; clear hk3)
    go_ret
    have hk : Keeps [] w w3 := (Keeps.alloc [] _ _).trans HK3.out
    exact ⟨rfl, (HC.out.next hk).mono (by omega), hk.mono (by simp)⟩
  | true =>
    rw [hr] at HR
    have hcl := HRB.out hr
    rw [Bool.true_and]
    have HT := Lib.hid fun W hk => HT.out W hk (by omega)
    clear hr HRB
    unfold str bv at *
    generalize ByteArray.mk (wordI l i).name.toArray = s at *
    generalize ((wordI l i).flags.toNat : Int) = f at *
    generalize hcd : (wordI l i).code = c at *
    obtain ⟨cl, hcle⟩ : ∃ cl, cl = c.length := ⟨_, rfl⟩
    simp only [← hcle] at c2 HR hcl HT
    have HCE := Lib.hid hcle
    clear hcle hcd
    generalize hq : (wholeC c && (startsD c).all fun k => mayC l i (c.drop k) (startsD c)) = q
    have HQ := Lib.hid hq
    clear hq
    go_enter Try.func37, Try.ntmps37
    go_upto_region 4 with (go_at_call 66; refine (HR.out _).mono ?_; rintro e w3 ⟨rfl, hk3⟩; have HK3 := Lib.hid hk3; clear hk3)
    have hW3 := (Whole.new w 59 [.string s, .int .u8 f, .slice a cl cp]).keeps HK3.out (by simp)
    have HW3 := Lib.hid hW3
    have hKw : Keeps [] w w3 := (Keeps.alloc [] w _).trans HK3.out
    have HKW := Lib.hid hKw
    have hf1 : ∀ W, Keeps [] w3 W → W.cell? ⟨w.heap.size, 2, none⟩ = some (.slice a cl cp) := fun W hk => hk.cell hW3.word.2.2 (by simp)
    clear hW3 hKw c0 c1 c2
    go_region_held3 (fun W' => Keeps [] w3 W') (first | assumption | exact Keeps.refl [] _ | exact Keeps.drew [] _ | exact Keeps.trans (by assumption) (by assumption) | exact (Keeps.drew [] _).trans (by assumption)) (first
            | (go_at_call 39; refine (HT.out _ (HKW.out.trans (by first | assumption | exact Keeps.refl [] _ | exact Keeps.drew [] _))).mono ?_; rintro e wA ⟨vA, qA, rfl, hsA, hkA⟩))
    have hkA' : Keeps [] w3 wA := by first | exact hkA | exact (Keeps.drew [] _).trans hkA
    have HKA := Lib.hid hkA'
    have hKwA := HKW.out.trans hkA'
    have HKWA := Lib.hid hKwA
    have hp2 := hf1 wA hkA'
    have HCA := Lib.hid (HC.out.next hKwA)
    clear hf1 hkA hkA' h791 HT HR HC
    rcases hsA with ⟨hs, rfl, rfl⟩ | ⟨sl, hs, hints, rfl⟩
    · have HWH := Lib.hid (show q = false by rw [← HQ.out, show wholeC c = false by unfold wholeC; rw [hs], Bool.false_and])
      clear hs hKwA
      go_wp2_with (go_quiet (fail))
      go_ret
      exact ⟨by rw [HWH.out]; rfl, (HCA.out.next (Keeps.drewN [] _ _)).mono (by omega), (HKWA.out.trans (Keeps.drewN [] _ _)).mono (by simp)⟩
    · obtain ⟨a2, cp2, rfl, hcp2, hcell⟩ := hints.shape
      have HS := Lib.hid hs
      have HI := Lib.hid hints
      by_cases hse : sl = []
      · subst hse
        have HWH := Lib.hid (show q = false by rw [← HQ.out, show wholeC c = false by unfold wholeC; rw [hs]; rfl, Bool.false_and])
        simp only [List.length_nil]
        clear hs hKwA hints hcell HS HI
        go_wp2_with (go_quiet (fail))
        go_ret
        exact ⟨by rw [HWH.out]; rfl, (HCA.out.next (Keeps.drewN [] _ _)).mono (by omega), (HKWA.out.trans (Keeps.drewN [] _ _)).mono (by simp)⟩
      · obtain ⟨M2, rfl, hbM, hM2, hcell⟩ := hcell hse
        obtain ⟨m, hm⟩ : ∃ m, m + 1 = sl.length := ⟨sl.length - 1, by have := List.length_pos_iff.2 hse; omega⟩
        obtain ⟨kl, hkl⟩ : ∃ kl, sl[m]? = some kl := ⟨_, List.getElem?_eq_getElem (by omega)⟩
        have hwent := starts_went hs
        have hkllt := (went_lt hwent kl (List.mem_of_getElem? hkl)).2
        have hslen := went_length hwent
        have hcne : c ≠ [] := by rintro rfl; simp at hkllt
        obtain ⟨cap5, hav, hcap5, _, hcs⟩ := (HU.out.keeps hKwA (by simp)).head1 hcne
        injection hav with ea _ ec
        subst ea ec
        have hlast : sl.getLastD 0 = kl := by
          rw [List.getLastD_eq_getLast?, List.getLast?_eq_getElem?, show sl.length - 1 = m by omega, hkl]; rfl
        have hk0 := hcs kl hkllt
        have hi0 := hcell m kl hkl
        have HCS := Lib.hid hcs
        have HCELL := Lib.hid hcell
        have hse' : sl.isEmpty = false := by simpa using hse
        have hwh : wholeC c = decide (cellN c kl = 101) := by unfold wholeC; rw [hs]; simp only [hse', hlast, Bool.not_false, Bool.true_and]
        have hsd : startsD c = sl := by unfold startsD; rw [hs]; rfl
        have HQ := Lib.hid (show q = (decide (cellN c kl = 101) && sl.all fun k => mayC l i (c.drop k) sl) by rw [← HQ.out, hwh, hsd])
        have HSD := Lib.hid hsd
        have HSE := Lib.hid hse
        have HWE := Lib.hid hwent
        have HM2 := Lib.hid (show mb < M2 by have := HKW.out.size; have h2 : w3.heap.size ≤ M2 := hbM; omega)
        have HHM := Lib.hid hm
        obtain ⟨n2, hn2⟩ : ∃ n2, n2 = sl.length := ⟨_, rfl⟩
        have HN2 := Lib.hid hn2
        rw [← hn2] at hcp2 hslen ⊢
        have e2 : IntKind.i64.wrap ((n2 : Int) - 1) = (m : Int) := by rw [show (n2 : Int) - 1 = (m : Int) by omega]; exact IntWalk.i64_in _ (by have := HCE.out; omega)
        have hmn : (m : Int) < (n2 : Int) := by omega
        have hmn0 : ¬ ((n2 : Int) = 0) := by omega
        have hklc : (kl : Int) < (cl : Int) := by have := HCE.out; omega
        have hmN : m < n2 := by omega
        have hn20 : ¬ (n2 = 0) := by omega
        have hkN : kl < cl := by omega
        clear hs hKwA hints hcell hm hkl hwent hkllt hcne hcs hlast hse hse' hwh hn2 hsd
        by_cases hX : cellN c kl = 101
        · have HQ2 := Lib.hid (show q = sl.all fun k => mayC l i (c.drop k) sl by rw [HQ.out, show decide (cellN c kl = 101) = true by simpa using hX, Bool.true_and])
          rw [hX] at hk0
          clear hX HQ
          have HPO := Lib.hid fun W (hk : Keeps [] wA W) => placesOf_any W _ _ sl (HI.out.next hk) (by rw [← HSD.out]; exact starts_small (by have := HCE.out; omega)) (by have := HCE.out; have := HN2.out; omega)
          rw [← HN2.out] at HPO
          go_wp2_with (first | (go_at_call 67; refine (HPO.out _ (Keeps.drewN [] _ _)).mono ?_; rintro e wP ⟨rfl, hsP, hkP⟩; have HSP := Lib.hid hsP; have HKP := Lib.hid ((Keeps.drewN [] wA _).trans hkP); clear hkP hsP) | go_quiet (fail))
          have hmw : mb < wA.heap.size := Nat.lt_of_lt_of_le hmbw HKWA.out.size
          go_loopw [54] (fun x wr => ∃ k : Nat, k ≤ n2 ∧ x = .int .i64 (k : Int) ∧ (∀ j, j < k → ∀ q, sl[j]? = some q → mayC l i (c.drop q) sl = true) ∧ Ck wr B mb l (.slice (some ⟨Bl, o, none⟩) l.length cap) (N + k) ∧ Keeps [mb] wP wr) (fun x _ => n2 - (intOf x).toNat)
          case atStart => exact ⟨0, by omega, rfl, fun j hj => by omega, HCA.out.next HKP.out, Keeps.refl _ _⟩
          case round =>
            obtain ⟨k, hk, rfl, hall, hck, hkr⟩ := hrel
            have HALL := Lib.hid hall
            have HCK := Lib.hid hck
            have hkwr : Keeps [mb] w wr := ((HKWA.out.trans HKP.out).mono (by simp)).trans hkr
            have HKWR := Lib.hid hkwr
            have HKR := Lib.hid hkr
            by_cases hlt : k < n2
            · have hlt' : (k : Int) < (n2 : Int) := by omega
              obtain ⟨q0, hq0⟩ : ∃ q0, sl[k]? = some q0 := ⟨_, List.getElem?_eq_getElem (by rw [← HN2.out]; exact hlt)⟩
              have hc0 := hkr.cell (HKP.out.cell (HCELL.out k q0 hq0) (by simp)) (by have := HM2.out; simp; omega)
              have hp2 := hkr.cell (HKP.out.cell hp2 (by simp)) (by simp; omega)
              obtain ⟨hw1, hw2, _⟩ := went_at HWE.out k q0 hq0
              have hqc := went_le hw1
              have hMM : M < mb := HM.out (by intro e2; subst e2; exact hw2 (by simp [longC]))
              have hur := HU.out.keeps hkwr (fun _ => by simp; omega)
              obtain ⟨p, cp6, hcut, hud⟩ := run_cutU_drop hur q0 hqc
              rw [← HCE.out] at hcut
              have hq0c : q0 ≤ cl := by rw [HCE.out]; exact hqc
              have hk1 : k ≤ 1000 := by have := HCE.out; omega
              have hdl : (c.drop q0).length ≤ maxLen := by rw [List.length_drop, ← HCE.out]; unfold maxLen; omega
              have HAW := Lib.hid (HAL.out wr (N + k) hck (by omega) _ (c.drop q0) M (off + q0) hud hMM hdl hw2 wA.heap.size sl (HSP.out.keeps hkr (by simp; omega)) hmw)
              have HNX := Lib.hid hq0
              clear hall hck hkr hkwr hw1 hw2 hqc hur hud hdl hq0 hMM
              generalize hdr : (c.drop q0).length = dl at *
              clear hdr
              cases hmay : mayC l i (c.drop q0) sl with
              | false =>
                rw [hmay] at HAW
                have HWH := Lib.hid (show q = false by
                  rw [HQ2.out, List.all_eq_false]
                  exact ⟨q0, List.mem_of_getElem? HNX.out, by rw [hmay]; decide⟩)
                clear hmay
                go_wp2_with (go_at_call 68; refine HAW.out.mono ?_; rintro e w7 ⟨rfl, hck7, hk7⟩; have HCK7 := Lib.hid hck7; have HK7 := Lib.hid hk7; clear hck7 hk7)
                go_ret
                exact ⟨by rw [HWH.out]; rfl, HCK7.out.mono (by have := HCE.out; omega), HKWR.out.trans HK7.out⟩
              | true =>
                rw [hmay] at HAW
                have HMAY := Lib.hid hmay
                clear hmay
                go_wp2_with (go_at_call 68; refine HAW.out.mono ?_; rintro e w7 ⟨rfl, hck7, hk7⟩; have HCK7 := Lib.hid hck7; have HK7 := Lib.hid hk7; clear hck7 hk7)
                go_roundw
                case rel => exact ⟨k + 1, by omega, by go_num, fun j hj q hq => by
                  by_cases he : j = k
                  · subst he
                    have := HNX.out
                    rw [hq] at this; injection this with this; subst this
                    exact HMAY.out
                  · exact HALL.out j (by omega) q hq, HCK7.out, HKR.out.trans HK7.out⟩
                case measure => simp [intOf]; omega
            · obtain rfl : k = n2 := by omega
              have hlt' : ¬ (k : Int) < (k : Int) := by omega
              have HWH := Lib.hid (show q = true by
                rw [HQ2.out, List.all_eq_true]
                intro x hx
                obtain ⟨j, hj⟩ := List.mem_iff_getElem?.1 hx
                exact hall j (by have := (List.getElem?_eq_some_iff.1 hj).1; have := HN2.out; omega) x hj)
              clear hall hck hkr hkwr
              go_wp2
              go_ret
              exact ⟨by rw [HWH.out]; rfl, HCK.out.mono (by have := HCE.out; omega), HKWR.out⟩
        · have HWH := Lib.hid (show q = false by rw [HQ.out, show decide (cellN c kl = 101) = false by simpa using hX, Bool.false_and])
          generalize cellN c kl = X at *
          have hX' : ¬ ((X : Int) = 101) := by omega
          have hXb : ((X : Int) != 101) = true := by simp; omega
          go_wp2_with (go_quiet (fail))
          go_ret
          exact ⟨by rw [HWH.out]; rfl, (HCA.out.next (Keeps.drewN [] _ _)).mono (by omega), (HKWA.out.trans (Keeps.drewN [] _ _)).mono (by simp)⟩
end Go.Proofs.Ytfnjjanknfmibaa
