/-
  Contracts of the document's own ring (lightshipref05): Pick.
-/
import Derived.Test.YtdcfcljgennipaaRtB
namespace Go.Proofs.Ytdcfcljgennipaa
open Go.RowKit

/-- The sector that is picked; -1: none. -/
def pickS (o : Option Hdr) : Int := match o with
  | some c => c.sector
  | none => -1

set_option maxRecDepth 100000 in
set_option maxHeartbeats 2000000 in
theorem R5Pick_any (w : World) (lv : Value) (l : List Hdr) (hl : HdrsAt w lv l) (hn : l.length ≤ 100000) (s : FS) (but : Int) (gw cw : Nat)
    (hw : ∀ (i : Nat) (x : Hdr), l[i]? = some x → w.cell? ⟨gw, i, none⟩ = some (.int .i64 (s.wearOf x.sector))) :
    Calls Try.prog 35 #[.slice (some ⟨gw, 0, none⟩) l.length cw, lv, .int .i64 but] w fun e w' => e = .returned (.int .i64 (pickS (s.pick but l))) ∧ Keeps [] w w' := by
  obtain ⟨ao, cap, rfl, hcap⟩ := hl.shape
  have HL := Lib.hid hl
  have HW := Lib.hid hw
  obtain ⟨n, hnn⟩ : ∃ n, n = l.length := ⟨_, rfl⟩
  have HN := Lib.hid hnn
  rw [← hnn] at HL hn hcap ⊢
  clear hl hnn hw
  go_enter Try.func35, Try.ntmps35
  go_wp2
  go_loopw [7, 8] (fun at' ix wr => ∃ (k : Nat) (a : Int), k ≤ n ∧ ix = .int .i64 k ∧ at' = .int .i64 a ∧ Hid (BestAt (s.pick but (l.take k)) l k a) ∧ Hid (Keeps [] w wr)) (fun _ ix _ => n - (intOf ix).toNat)
  case atStart => exact ⟨0, -1, Nat.zero_le _, rfl, rfl, Lib.hid (.inl ⟨rfl, rfl⟩), Lib.hid (Keeps.refl _ _)⟩
  case round =>
    obtain ⟨k, a, hk, rfl, rfl, HB, KP⟩ := hrel
    by_cases hlt : k < n
    · have hki : (k : Int) < (n : Int) := by omega
      have hkl : k < l.length := by rw [← HN.out]; exact hlt
      have hx : l[k]? = some l[k] := List.getElem?_eq_getElem hkl
      have hstep := bestL_take (otherH but) s.fresher l k _ hx
      have hcells := (HL.out.keeps KP.out (by simp))
      have wk := KP.out.cell (HW.out k _ hx) (by simp)
      obtain ⟨ao', cap', hv', _, hc⟩ := hcells
      simp only [Value.slice.injEq, ← HN.out, true_and] at hv'
      obtain ⟨rfl, rfl⟩ := hv'
      obtain ⟨g, rfl, hg, c0, c1, c2⟩ := hc k _ hx
      obtain ⟨⟨sx, kx, nx⟩, hxe⟩ : ∃ x, x = l[k] := ⟨_, rfl⟩
      rw [← hxe] at hx hstep c0 c1 c2 wk
      dsimp only at c0 c1 c2 wk
      have HX := Lib.hid hx
      have HST := Lib.hid hstep
      clear hx hstep hxe
      by_cases hbt : sx = but
      · subst hbt
        have HNEW := Lib.hid (show s.pick sx (l.take (k + 1)) = s.pick sx (l.take k) by
          show bestL _ _ _ = bestL _ _ _
          rw [HST.out]
          unfold bestStep
          rw [if_neg (fun h => by have := h.1; unfold otherH at this; simp at this)])
        have e1 : ((sx != sx) : Bool) = false := by simp
        clear hc wk c1 c2
        go_wp2
        go_quiet (fail)
        go_wp2
        go_roundw
        case rel => exact ⟨k + 1, a, by omega, by go_num, rfl, Lib.hid (by rw [HNEW.out]; exact HB.out.more), Lib.hid (KP.out.trans (Keeps.drewN _ _ _))⟩
        case measure => simp [intOf]; omega
      · have e1 : ((sx != but) : Bool) = true := by simpa using hbt
        rcases HB.out with ⟨hno, rfl⟩ | ⟨j, ⟨sy, ky, ny⟩, hso, rfl, hjk, hj⟩
        · have HNEW := Lib.hid (show s.pick but (l.take (k + 1)) = some ⟨sx, kx, nx⟩ by
            show bestL _ _ _ = _
            rw [HST.out, show bestL (otherH but) s.fresher (l.take k) = none from hno]
            unfold bestStep
            rw [if_pos ⟨e1, fun c hc => by cases hc⟩])
          clear hc wk c1 c2
          go_wp2
          go_quiet (fail)
          go_wp2
          go_roundw
          case rel => exact ⟨k + 1, k, by omega, by go_num, rfl, Lib.hid (.inr ⟨k, _, HNEW.out, rfl, by omega, HX.out⟩), Lib.hid (KP.out.trans (Keeps.drewN _ _ _))⟩
          case measure => simp [intOf]; omega
        · have wj := KP.out.cell (HW.out j _ hj) (by simp)
          dsimp only at wj
          have HJ := Lib.hid hj
          have hjn : (j : Int) < (n : Int) := by omega
          have hj0 : ¬ (j : Int) < 0 := by omega
          clear hc c1 c2 hj
          by_cases hnew : s.wearOf sx < s.wearOf sy
          · have HNEW := Lib.hid (show s.pick but (l.take (k + 1)) = some ⟨sx, kx, nx⟩ by
              show bestL _ _ _ = _
              rw [HST.out, show bestL (otherH but) s.fresher (l.take k) = some ⟨sy, ky, ny⟩ from hso]
              unfold bestStep
              rw [if_pos ⟨e1, fun c hc => by cases hc; unfold FS.fresher; simpa using hnew⟩])
            generalize s.wearOf sx = NX at *
            generalize s.wearOf sy = NY at *
            go_wp2
            go_quiet (fail)
            go_wp2
            go_roundw
            case rel => exact ⟨k + 1, k, by omega, by go_num, rfl, Lib.hid (.inr ⟨k, _, HNEW.out, rfl, by omega, HX.out⟩), Lib.hid (KP.out.trans (Keeps.drewN _ _ _))⟩
            case measure => simp [intOf]; omega
          · have HNEW := Lib.hid (show s.pick but (l.take (k + 1)) = some ⟨sy, ky, ny⟩ by
              show bestL _ _ _ = _
              rw [HST.out, show bestL (otherH but) s.fresher (l.take k) = some ⟨sy, ky, ny⟩ from hso]
              unfold bestStep
              rw [if_neg (fun h => by have := h.2 _ rfl; unfold FS.fresher at this; simp at this; omega)])
            generalize s.wearOf sx = NX at *
            generalize s.wearOf sy = NY at *
            go_wp2
            go_quiet (fail)
            go_wp2
            go_roundw
            case rel => exact ⟨k + 1, j, by omega, by go_num, rfl, Lib.hid (.inr ⟨j, _, HNEW.out, rfl, by omega, HJ.out⟩), Lib.hid (KP.out.trans (Keeps.drewN _ _ _))⟩
            case measure => simp [intOf]; omega
    · obtain rfl : k = n := by omega
      have hb := HB.out
      rw [HN.out, List.take_length] at hb
      rcases hb with ⟨hno, rfl⟩ | ⟨j, ⟨sy, ky, ny⟩, hso, rfl, hjk, hj⟩
      · have HNO := Lib.hid hno
        clear hno
        go_wp2
        go_ret
        exact ⟨by rw [HNO.out]; rfl, KP.out⟩
      · have hcells := (HL.out.keeps KP.out (by simp))
        obtain ⟨ao', cap', hv', _, hc⟩ := hcells
        simp only [Value.slice.injEq, ← HN.out, true_and] at hv'
        obtain ⟨rfl, rfl⟩ := hv'
        obtain ⟨g, rfl, hg, c0, c1, c2⟩ := hc j _ hj
        dsimp only at c0 c1 c2
        have hjn : (j : Int) < (k : Int) := by rw [HN.out]; omega
        have hj0 : ¬ (j : Int) < 0 := by omega
        have HSO := Lib.hid hso
        clear hc hso hj
        go_wp2
        go_ret
        exact ⟨by rw [HSO.out]; rfl, KP.out⟩
end Go.Proofs.Ytdcfcljgennipaa
