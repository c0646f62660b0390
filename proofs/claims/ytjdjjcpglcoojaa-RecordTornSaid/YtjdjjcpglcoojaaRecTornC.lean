/-
  RecordTorn, for every argument.
-/
import Derived.Test.YtjdjjcpglcoojaaRecTornB
namespace Go.Proofs.Ytjdjjcpglcoojaa
open Go.RowKit

set_option maxRecDepth 100000 in
set_option maxHeartbeats 2000000 in
theorem RecordTorn_long (w : World) (a : Option Addr) (n c B o m : Nat) (ls : List (List UInt8)) (p next mask : List UInt8) (vp vn vm : Value) (Mp Mn Mm : Nat) (at' : Int)
    (hm : m = min n 6) (hml : m = ls.length) (hn : n ≤ 9223372036854775807) (ha : ls ≠ [] → a = some ⟨B, o, none⟩) (hP : PartsAt w B o ls) (hc : n ≤ c)
    (rp : Reads w vp p Mp) (rn : Reads w vn next Mn) (rm : Reads w vm mask Mm) (hl : ¬ (p.length ≤ 200 ∧ next.length ≤ 200 ∧ mask.length ≤ 300)) :
    Calls Try.prog 4 #[.slice a n c, vp, vn, .int .u8 at', vm] w fun e w' => e = .returned (.bool true) ∧ Keeps [] w w' := by
  obtain ⟨xp, cp, rfl, _⟩ := rp.shape
  obtain ⟨xn, cn, rfl, _⟩ := rn.shape
  obtain ⟨xm, cm, rfl, _⟩ := rm.shape
  have hmin := fun w ts t => run_min2 w ts t (n : Int) 6 m (by omega)
  have hcut := fun w => run_cutP w a n c m (by omega)
  have HWT := Lib.hid (written4_any w a c B o ls ha hP (by unfold maxLen; omega) (by omega))
  rw [← hml] at HWT
  obtain ⟨np, hnp⟩ : ∃ x, x = p.length := ⟨_, rfl⟩
  obtain ⟨nn, hnn⟩ : ∃ x, x = next.length := ⟨_, rfl⟩
  obtain ⟨nm, hnm⟩ : ∃ x, x = mask.length := ⟨_, rfl⟩
  rw [← hnp, ← hnn, ← hnm] at hl
  rw [← hnp, ← hnn, ← hnm]
  obtain ⟨q, hq⟩ : ∃ q, q = sizes (cutP ls) := ⟨_, rfl⟩
  rw [← hq] at HWT
  have HL : (200 : Int) < np ∨ (¬ (200 : Int) < np ∧ (200 : Int) < nn) ∨ (¬ (200 : Int) < np ∧ ¬ (200 : Int) < nn ∧ (300 : Int) < nm) := by omega
  clear hm hml ha hP rp rn rm hnp hnn hnm hq hl
  rcases HL with h1 | ⟨h1, h2⟩ | ⟨h1, h2, h3⟩
  all_goals
    go_enter Try.func4, Try.ntmps4
    go_wp2_with fail
    refine HWT.out.mono ?_
    rintro e w1 ⟨F, Bb, Wb, M, s, rfl, hF, hWr, k1, hF0, hB0, hW0⟩
    have K1 := Lib.hid k1
    clear hF hWr k1
    go_wp2_with fail
    refine (awake4_any _).mono ?_
    rintro e w17 ⟨rfl, k17⟩
    have K17 := Lib.hid k17
    clear k17
    go_wp2
    go_ret
    exact ⟨rfl, K1.out.trans K17.out⟩

theorem RecordTorn_any (w : World) (v vp vn vm : Value) (ls : List (List UInt8)) (p next mask : List UInt8) (Mp Mn Mm : Nat) (at' : Int) (h : Parts w v ls)
    (rp : Reads w vp p Mp) (rn : Reads w vn next Mn) (rm : Reads w vm mask Mm) (hat : 0 ≤ at' ∧ at' ≤ 255) :
    Calls Try.prog 4 #[v, vp, vn, .int .u8 at', vm] w fun e w' => e = .returned (.bool true) ∧ Keeps [] w w' := by
  obtain ⟨a, c, B, o, rfl, ha, hp, hm, hc⟩ := h.at
  have hne : ls.take 6 ≠ [] → ls ≠ [] := fun h e => h (by rw [e]; rfl)
  have hpt : PartsAt w B o (ls.take 6) := fun i l hl => by
    rw [List.getElem?_take] at hl
    split at hl
    · exact hp i l hl
    · cases hl
  have hlen : min ls.length 6 = (ls.take 6).length := by simp; omega
  unfold maxLen at hm
  by_cases hs : p.length ≤ 200 ∧ next.length ≤ 200 ∧ mask.length ≤ 300
  · exact RecordTorn_short w a ls.length c B o _ (ls.take 6) p next mask vp vn vm Mp Mn Mm at' rfl hlen (by omega) (fun h => ha (hne h)) hpt hc rp rn rm hs.1 hs.2.1 hs.2.2 hat
  · exact RecordTorn_long w a ls.length c B o _ (ls.take 6) p next mask vp vn vm Mp Mn Mm at' rfl hlen (by omega) (fun h => ha (hne h)) hpt hc rp rn rm hs
end Go.Proofs.Ytjdjjcpglcoojaa
