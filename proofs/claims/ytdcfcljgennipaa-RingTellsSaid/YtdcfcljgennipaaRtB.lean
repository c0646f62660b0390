/-
  Contracts of the document's own ring (lightshipref05): Newest, Pick.
-/
import Derived.Test.YtdcfcljgennipaaRtA
import Derived.Test.YtdcfcljgennipaaRingF
namespace Go.Proofs.Ytdcfcljgennipaa
open Go.RowKit

/-- Where the best one of the first k of a list stands: -1 where there is none. -/
def BestAt (o : Option Hdr) (l : List Hdr) (k : Nat) (at' : Int) : Prop :=
  (o = none ∧ at' = -1) ∨ ∃ (j : Nat) (c : Hdr), o = some c ∧ at' = (j : Int) ∧ j < k ∧ l[j]? = some c

theorem BestAt.more {o : Option Hdr} {l : List Hdr} {k : Nat} {a : Int} (h : BestAt o l k a) : BestAt o l (k + 1) a := by
  rcases h with h | ⟨j, c, h1, h2, h3, h4⟩
  · exact .inl h
  · exact .inr ⟨j, c, h1, h2, by omega, h4⟩

set_option maxRecDepth 100000 in
set_option maxHeartbeats 2000000 in
theorem R5Newest_any (w : World) (lv : Value) (l : List Hdr) (hl : HdrsAt w lv l) (hn : l.length ≤ 100000) :
    Calls Try.prog 33 #[lv] w fun e w' => e = .returned (.tuple #[.agg (hdrCells ((newestL l).getD ⟨0, 0, 0#32⟩)).toArray, .bool (newestL l).isSome]) ∧ Keeps [] w w' := by
  obtain ⟨ao, cap, rfl, hcap⟩ := hl.shape
  have HL := Lib.hid hl
  obtain ⟨n, hnn⟩ : ∃ n, n = l.length := ⟨_, rfl⟩
  have HN := Lib.hid hnn
  rw [← hnn] at HL hn hcap ⊢
  clear hl hnn
  have k0 : Keeps [] w (w.alloc (.cells #[.int .i64 0, .int .u8 0, .int .u32 0] 56)) := Keeps.alloc [] _ _
  have w0 : Whole (w.alloc (.cells #[.int .i64 0, .int .u8 0, .int .u32 0] 56)) w.heap.size 56 [.int .i64 0, .int .u8 0, .int .u32 0] := Whole.new w _ [_, _, _]
  go_enter Try.func33, Try.ntmps33
  go_upto_region 3 with (fail)
  generalize World.alloc w _ = V at *
  have K0 := Lib.hid k0
  have W0 := Lib.hid w0
  have ltV := w0.lt
  clear k0 w0
  go_wp2
  go_loopw [4, 5] (fun at' ix wr => ∃ (k : Nat) (a : Int), k ≤ n ∧ ix = .int .i64 k ∧ at' = .int .i64 a ∧ Hid (BestAt (newestL (l.take k)) l k a) ∧ Hid (Keeps [] V wr)) (fun _ ix _ => n - (intOf ix).toNat)
  case atStart => exact ⟨0, -1, Nat.zero_le _, rfl, rfl, Lib.hid (.inl ⟨rfl, rfl⟩), Lib.hid (Keeps.refl _ _)⟩
  case round =>
    obtain ⟨k, a, hk, rfl, rfl, HB, KP⟩ := hrel
    by_cases hlt : k < n
    · have hki : (k : Int) < (n : Int) := by omega
      have hkl : k < l.length := by rw [← HN.out]; exact hlt
      have hx : l[k]? = some l[k] := List.getElem?_eq_getElem hkl
      have hstep := bestL_take liveH newerH l k _ hx
      have hcells := (HL.out.keeps (K0.out.trans KP.out) (by simp))
      obtain ⟨ao', cap', hv', _, hc⟩ := hcells
      simp only [Value.slice.injEq, ← HN.out, true_and] at hv'
      obtain ⟨rfl, rfl⟩ := hv'
      obtain ⟨g, rfl, hg, c0, c1, c2⟩ := hc k _ hx
      obtain ⟨⟨sx, kx, nx⟩, hxe⟩ : ∃ x, x = l[k] := ⟨_, rfl⟩
      rw [← hxe] at hx hstep c0 c1 c2
      dsimp only at c0 c1 c2
      have HX := Lib.hid hx
      have HST := Lib.hid hstep
      clear hx hstep hxe
      by_cases hkd : kx = 1
      · subst hkd
        have c1' := c1.trans (show some (Value.int .u8 (((1 : UInt8).toNat : Nat) : Int)) = some (.int .u8 1) from rfl)
        clear c1
        rcases HB.out with ⟨hno, rfl⟩ | ⟨j, ⟨sy, ky, ny⟩, hso, rfl, hjk, hj⟩
        · have HNEW := Lib.hid (show newestL (l.take (k + 1)) = some ⟨sx, 1, nx⟩ by
            show bestL _ _ _ = _
            rw [HST.out, show bestL liveH newerH (l.take k) = none from hno]; rfl)
          clear hc
          go_wp2
          go_quiet (fail)
          go_wp2
          go_roundw
          case rel => exact ⟨k + 1, k, by omega, by go_num, rfl, Lib.hid (.inr ⟨k, _, HNEW.out, rfl, by omega, HX.out⟩), Lib.hid (KP.out.trans (Keeps.drewN _ _ _))⟩
          case measure => simp [intOf]; omega
        · obtain ⟨g', hg', _, y0, y1, y2⟩ := hc j _ hj
          simp only [Option.some.injEq, Addr.mk.injEq, and_true] at hg'
          subst hg'
          dsimp only at y2
          have HJ := Lib.hid hj
          have hjn : (j : Int) < (n : Int) := by omega
          have hj0 : ¬ (j : Int) < 0 := by omega
          clear hc y0 y1 hj
          by_cases hnew : ny.toNat < nx.toNat
          · have hgt : (ny.toNat : Int) < (nx.toNat : Int) := by omega
            have HNEW := Lib.hid (show newestL (l.take (k + 1)) = some ⟨sx, 1, nx⟩ by
              show bestL _ _ _ = _
              rw [HST.out, show bestL liveH newerH (l.take k) = some ⟨sy, ky, ny⟩ from hso]
              unfold bestStep
              rw [if_pos ⟨rfl, fun c hc => by cases hc; unfold newerH; simpa using hnew⟩])
            generalize nx.toNat = NX at *
            generalize ny.toNat = NY at *
            go_wp2
            go_quiet (fail)
            go_wp2
            go_roundw
            case rel => exact ⟨k + 1, k, by omega, by go_num, rfl, Lib.hid (.inr ⟨k, _, HNEW.out, rfl, by omega, HX.out⟩), Lib.hid (KP.out.trans (Keeps.drewN _ _ _))⟩
            case measure => simp [intOf]; omega
          · have hgt : ¬ (ny.toNat : Int) < (nx.toNat : Int) := by omega
            have HNEW := Lib.hid (show newestL (l.take (k + 1)) = some ⟨sy, ky, ny⟩ by
              show bestL _ _ _ = _
              rw [HST.out, show bestL liveH newerH (l.take k) = some ⟨sy, ky, ny⟩ from hso]
              unfold bestStep
              rw [if_neg (fun h => by have := h.2 _ rfl; unfold newerH at this; simp at this; omega)])
            generalize nx.toNat = NX at *
            generalize ny.toNat = NY at *
            go_wp2
            go_quiet (fail)
            go_wp2
            go_roundw
            case rel => exact ⟨k + 1, j, by omega, by go_num, rfl, Lib.hid (.inr ⟨j, _, HNEW.out, rfl, by omega, HJ.out⟩), Lib.hid (KP.out.trans (Keeps.drewN _ _ _))⟩
            case measure => simp [intOf]; omega
      · have e1 : (((kx.toNat : Int) == 1) : Bool) = false := by
          have : kx.toNat ≠ 1 := fun e => hkd (UInt8.toNat_inj.1 e)
          simp; omega
        have HNEW := Lib.hid (show newestL (l.take (k + 1)) = newestL (l.take k) by
          show bestL _ _ _ = bestL _ _ _
          rw [HST.out]
          unfold bestStep
          rw [if_neg (fun h => by have := h.1; unfold liveH at this; simp at this; exact hkd this)])
        clear hc
        go_wp2
        go_quiet (fail)
        go_wp2
        go_roundw
        case rel => exact ⟨k + 1, a, by omega, by go_num, rfl, Lib.hid (by rw [HNEW.out]; exact HB.out.more), Lib.hid (KP.out.trans (Keeps.drewN _ _ _))⟩
        case measure => simp [intOf]; omega
    · obtain rfl : k = n := by omega
      have hb := HB.out
      rw [HN.out, List.take_length] at hb
      have WR := Lib.hid (W0.out.keeps KP.out (by simp))
      rcases hb with ⟨hno, rfl⟩ | ⟨j, ⟨sy, ky, ny⟩, hso, rfl, hjk, hj⟩
      · have HNO := Lib.hid hno
        have W4 := WR.out.setRow [.int .i64 0, .int .u8 0, .int .u32 0]
        clear hno
        go_wp2_with (first | (refine wpList_build_at rfl 56 _ rfl #[.int .i64 0, .int .u8 0, .int .u32 0] (by kernel_rfl) ?_) | (refine wpList_store_row rfl 56 _ _ rfl w.heap.size #[.int .i64 0, .int .u8 0, .int .u32 0] rfl rfl 56 #[.int .i64 0, .int .u8 0, .int .u32 0] WR.out (by rw [szHeader]; rfl) rfl (hdr_one _ _ _) ?_))
        refine bodyPost_ret (results_row_tmp Try.results33 _ _ w.heap.size 56 #[.int .i64 0, .int .u8 0, .int .u32 0] (0, 0) _ rfl W4 Try.underlying56 rfl (by rw [szHeader]; rfl) _ rfl) rfl ?_
        exact ⟨by rw [HNO.out]; rfl, (K0.out.trans KP.out).then (Keeps.setRow (S := [w.heap.size]) _ (by simp) _) (fun x hx => .inr (by simp at hx; omega))⟩
      · have hcells := (HL.out.keeps (K0.out.trans KP.out) (by simp))
        obtain ⟨ao', cap', hv', _, hc⟩ := hcells
        simp only [Value.slice.injEq, ← HN.out, true_and] at hv'
        obtain ⟨rfl, rfl⟩ := hv'
        obtain ⟨g, rfl, hg, c0, c1, c2⟩ := hc j _ hj
        dsimp only at c0 c1 c2
        have hjn : (j : Int) < (k : Int) := by rw [HN.out]; omega
        have hj0 : ¬ (j : Int) < 0 := by omega
        have HSO := Lib.hid hso
        have W4 := WR.out.setRow [.int .i64 sy, .int .u8 (ky.toNat : Int), .int .u32 (ny.toNat : Int)]
        clear hc hso hj
        go_wp2_with (refine wpList_store_row rfl 56 _ _ rfl w.heap.size #[.int .i64 sy, .int .u8 (ky.toNat : Int), .int .u32 (ny.toNat : Int)] rfl rfl 56 #[.int .i64 0, .int .u8 0, .int .u32 0] WR.out (by rw [szHeader]; rfl) rfl (hdr_one _ _ _) ?_)
        refine bodyPost_ret (results_row_tmp Try.results33 _ _ w.heap.size 56 #[.int .i64 sy, .int .u8 (ky.toNat : Int), .int .u32 (ny.toNat : Int)] (0, 0) _ rfl W4 Try.underlying56 rfl (by rw [szHeader]; rfl) _ rfl) rfl ?_
        exact ⟨by rw [HSO.out]; rfl, (K0.out.trans KP.out).then (Keeps.setRow (S := [w.heap.size]) _ (by simp) _) (fun x hx => .inr (by simp at hx; omega))⟩
end Go.Proofs.Ytdcfcljgennipaa
