/-
  Contract: Copy.
-/
import Derived.Test.YtpcgckppdnlccaaArgs
import Derived.Test.YtpcgckppdnlccaaNone
import Derived.Deep.RegionWith
namespace Go.Proofs.Ytpcgckppdnlccaa
open Go.RowKit Go.Deep

/-- A copy that was handed back: the same, and apart. -/
def Copied (w : World) (M0 : Nat) (s : FS) (e : Ending) (w' : World) : Prop :=
  ∃ F B W M, e = .returned (.pointer (some ⟨F, 0, none⟩)) ∧ w.heap.size ≤ F ∧ w.heap.size ≤ B ∧ w.heap.size ≤ W ∧ FlashAt w' F B W M s ∧ Keeps [] w w' ∧ (s.mask ≠ [] → M = M0 ∧ M < w.heap.size) ∧ (M = M0 ∨ w.heap.size ≤ M)

/-- The cells of a copy, its power copied, and it owned. -/
theorem FlashAt.copy (w : World) (B W M : Nat) (s : FS) (cb cw : Nat) (mv : Value) (hB : Row w B 5 (s.bs.map bv) cb) (hW : Row w W 3 (s.wear.map (Value.int .i64)) cw) (hM : Reads w mv s.mask M) (hBW : B ≠ W) (nM : M ≠ w.heap.size ∧ M ≠ B ∧ M ≠ W)
    (len : s.bs.length = 256 * s.wear.length) (few : s.wear.length ≤ 256) (l0 : 0 ≤ s.left) (l1 : s.left ≤ 9223372036854775807) (ml : s.mask.length ≤ 65536) :
    FlashAt ((w.alloc (.cells #[.pointer none, .slice (some ⟨B, 0, none⟩) s.bs.length cb, .slice (some ⟨W, 0, none⟩) s.wear.length cw, .bool s.down, .bool s.armed, .int .i64 s.left, mv] 66)).setCell ⟨w.heap.size, 0, none⟩ (.pointer (some ⟨w.heap.size, 0, none⟩))) w.heap.size B W M s ∧
    Keeps [] w ((w.alloc (.cells #[.pointer none, .slice (some ⟨B, 0, none⟩) s.bs.length cb, .slice (some ⟨W, 0, none⟩) s.wear.length cw, .bool s.down, .bool s.armed, .int .i64 s.left, mv] 66)).setCell ⟨w.heap.size, 0, none⟩ (.pointer (some ⟨w.heap.size, 0, none⟩))) := by
  have k : Keeps [] w ((w.alloc (.cells #[.pointer none, .slice (some ⟨B, 0, none⟩) s.bs.length cb, .slice (some ⟨W, 0, none⟩) s.wear.length cw, .bool s.down, .bool s.armed, .int .i64 s.left, mv] 66)).setCell ⟨w.heap.size, 0, none⟩ (.pointer (some ⟨w.heap.size, 0, none⟩))) :=
    (Keeps.alloc [] w _).then (Keeps.setCell (S := [w.heap.size]) _ (by simp) _) (fun x hx => .inr (by simp at hx; omega))
  have lB := hB.lt
  have lW := hW.lt
  refine ⟨{ nFB := by omega, nFW := by omega, nBW := hBW, nM := nM, len := len, few := few, left0 := l0, left1 := l1, maskl := ml, here := ⟨cb, cw, mv, ?_, hB.keeps k (by simp), hW.keeps k (by simp), hM.keeps k (by simp)⟩ }, k⟩
  have h0 := heap_alloc_new w (.cells #[.pointer none, .slice (some ⟨B, 0, none⟩) s.bs.length cb, .slice (some ⟨W, 0, none⟩) s.wear.length cw, .bool s.down, .bool s.armed, .int .i64 s.left, mv] 66)
  have h5 := heap_setCell_at _ w.heap.size 0 (.pointer (some ⟨w.heap.size, 0, none⟩)) _ _ _ h0
  simpa using h5

set_option maxHeartbeats 1000000 in
theorem Copy_yes {F B W M : Nat} {s : FS} (w : World) (hF : FlashAt w F B W M s) : Calls Try.prog 25 #[.pointer (some ⟨F, 0, none⟩)] w (Copied w M s) := by
  obtain ⟨cb, cw, mv, c0, c1, c2, c3, c4, c5, c6, cf, rB, rW, rM⟩ := hF.cells
  have hlen := hF.len
  have hfew := hF.few
  have hb1 : s.bs.length ≤ 65536 := by omega
  have hb2 : s.wear.length ≤ 65536 := by omega
  have HL := Lib.hid hlen
  have HB := Lib.hid rB
  have HW := Lib.hid rW
  have HM := Lib.hid rM
  clear cf hlen rB rW rM
  go_enter Try.func25, Try.ntmps25
  go_wp2_with (go_at_call 37; refine (made_yes F _ c0).mono ?_; rintro e w' ⟨rfl, rfl⟩)
  go_region_with (first | (go_at_call 40; refine (cloneB_some _ ⟨B, 0, none⟩ cb _ (s.bs.map bv) (by simp) hb1 (one_bytes _) ?_).mono ?_; (intro i u hu; rw [Addr.add_off, Nat.zero_add]; exact HB.out.cell i hu); rintro e w1 ⟨b1, k1, rfl, g1, hR1, hK1⟩; have e2 := hK1.cell c2 (by simp); have HR1 := Lib.hid hR1; have HK1 := Lib.hid hK1; clear hR1 hK1) | (go_at_call 43; refine (cloneI_some _ ⟨W, 0, none⟩ cw _ (s.wear.map (Value.int .i64)) (by simp) hb2 (one_ints _) ?_).mono ?_; (intro i u hu; rw [Addr.add_off, Nat.zero_add]; exact (HK1.out.cell (HW.out.cell i hu) (by simp))); rintro e w2 ⟨b2, k2, rfl, g2, hR2, hK2⟩; have HR2 := Lib.hid hR2; have HK2 := Lib.hid hK2; clear hR2 hK2))
  all_goals
    have kw : Keeps [] w w2 := ((Keeps.drew [] w).trans HK1.out).trans HK2.out
    have hlt := hF.lt
    have hsz := kw.size
    have e3 := kw.cell c3 (by simp)
    have e4 := kw.cell c4 (by simp)
    have e5 := kw.cell c5 (by simp)
    have e6 := kw.cell c6 (by simp)
    have hFlt : F < w2.heap.size := by omega
    have hne : ¬ F = w2.heap.size := by omega
    have hs1 := HR1.out.lt
    have hs2 := HK2.out.size
    have hgb2 : w1.heap.size ≤ b2 := g2
    have hgb1 : w.heap.size ≤ b1 := g1
    have hM' : ∃ M', Reads w2 mv s.mask M' ∧ (M' ≠ w2.heap.size ∧ M' ≠ b1 ∧ M' ≠ b2) ∧ (s.mask ≠ [] → M' = M ∧ M' < w.heap.size) ∧ (M' = M ∨ w.heap.size ≤ M') := by
      have hm2 := HM.out.keeps kw (by simp)
      by_cases hm : s.mask = []
      · rw [hm] at hm2 ⊢
        exact ⟨w2.heap.size + b1 + b2 + 1, hm2.anyBlock _, ⟨by omega, by omega, by omega⟩, fun h => absurd rfl h, .inr (by omega)⟩
      · obtain ⟨off, cap, _, _, hc⟩ := HM.out.at hm
        have h0 : 0 < s.mask.length := List.length_pos_iff.2 hm
        have hlt0 : M < w.heap.size := World.block_lt_of_cell? w _ (hc 0 s.mask[0] (List.getElem?_eq_getElem h0))
        have hb2w : w.heap.size ≤ w1.heap.size := HK1.out.size
        exact ⟨M, hm2, ⟨by omega, by omega, by omega⟩, fun _ => ⟨rfl, hlt0⟩, .inl rfl⟩
    obtain ⟨M', rM', nM', lM', dM'⟩ := hM'
    obtain ⟨ao, cv, hmv⟩ : ∃ ao cap, mv = .slice ao s.mask.length cap := by
      rcases rM' with ⟨h, hl⟩ | ⟨ad, cap, h, _⟩
      · exact ⟨none, 0, by rw [h, hl]; rfl⟩
      · exact ⟨_, _, h⟩
    have fr := FlashAt.copy w2 b1 b2 M' s k1 k2 mv (HR1.out.keeps HK2.out (by simp)) HR2.out rM' (by omega) nM' HL.out hfew hF.left0 hF.left1 hF.maskl
    rw [hmv] at fr e6
    have FR := Lib.hid fr
    have KW := Lib.hid kw
    have gb1 : w.heap.size ≤ b1 := g1
    have gb2 : w.heap.size ≤ b2 := by have := HK1.out.size; simp at this; omega
    clear fr kw c0 c1 c2 c3 c4 c5 c6 rM'
    simp only [Act.put, List.getElem_toArray, List.getElem_cons_succ, List.getElem_cons_zero, List.setIfInBounds_toArray, List.set_cons_succ, List.set_cons_zero]
    clear hmv
    go_wp2_with (go_at_call 32; refine (own_any _ _ (.pointer none) (by rw [cell_alloc_new]; rfl) (frozen_alloc_new _ _ _ _)).mono ?_; rintro e w4 ⟨rfl, hw4⟩; have FR4 := Lib.hid (show FlashAt w4 w2.heap.size b1 b2 M' s ∧ Keeps [] w2 w4 by rw [← hw4]; exact FR.out); clear hw4)
    go_ret
    exact ⟨w2.heap.size, b1, b2, M', rfl, by omega, gb1, gb2, FR4.out.1, KW.out.trans FR4.out.2, lM', dM'⟩
end Go.Proofs.Ytpcgckppdnlccaa
