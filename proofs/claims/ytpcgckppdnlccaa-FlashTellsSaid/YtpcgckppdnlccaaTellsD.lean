/-
  Contract: the document's Erase.
-/
import Derived.Test.YtpcgckppdnlccaaTellsC
namespace Go.Proofs.Ytpcgckppdnlccaa
open Go.RowKit Go.Deep

/-- One wear is written. -/
theorem RefAt.worn {w : World} {R C W M : Nat} {s : FS} {ms : List UInt8} (h : RefAt w R C W M s ms) (i : Nat) (x : Int) :
    RefAt (w.setCell ⟨W, i, none⟩ (.int .i64 x)) R C W M { s with wear := s.wear.set i x } ms ∧ Keeps [W] w (w.setCell ⟨W, i, none⟩ (.int .i64 x)) := by
  obtain ⟨cc, cw, mv, hR, hC, hW, hM⟩ := h.here
  have k : Keeps [W] w (w.setCell ⟨W, i, none⟩ (.int .i64 x)) := Keeps.setCell _ (by simp) _
  refine ⟨⟨h.nRC, h.nRW, h.nCW, h.nM, by simpa using h.len, by simpa using h.few, h.left0, h.left1, h.maskl, h.mask, cc, cw, mv, ?_, ?_, ?_, ?_⟩, k⟩
  · rw [k.obj hR (by simpa using h.nRW)]; simp [FS.lets]
  · exact hC.keeps k (by simpa using h.nCW)
  · have := hW.set i (.int .i64 x)
    rwa [← List.map_set] at this
  · exact hM.keeps k (by simpa using h.nM.2.2)

def gSets (tn : Bool) (ms : List UInt8) (i : Nat) (_c : UInt8) : UInt8 := tornT tn (ms.getD i 0)

theorem let_sets (s : FS) (ms : List UInt8) (a n : Nat) (hm : s.armed = true → s.mask = ms.take s.bs.length) (hn : a + n ≤ s.bs.length) :
    (s.let a n gSet) = ({ s.spent with bs := span s.bs a n (gSets s.tears ms) }, if s.tears then 12 else 0) := by
  by_cases ht : s.armed = true ∧ s.left = 0
  · have e2 : s.tears = true := by unfold FS.tears; rw [decide_eq_true ht]
    have e : span s.bs a n (fun i c => gSet (s.mask.getD i 0) i c) = span s.bs a n (gSets s.tears ms) := span_congr _ _ _ _ _ fun i c hi => by
      unfold gSet gSets
      rw [e2, hm ht.1, List.getD_eq_getElem?_getD, List.getElem?_take, if_pos (by omega)]
      simp [tornT, List.getD_eq_getElem?_getD]
    unfold FS.let FS.spent
    rw [if_pos ht, if_pos ht, e, e2]
    rfl
  · have e2 : s.tears = false := by unfold FS.tears; rw [decide_eq_false ht]
    have e : span s.bs a n (gSet 255) = span s.bs a n (gSets s.tears ms) := span_congr _ _ _ _ _ fun i c hi => by
      unfold gSet gSets
      rw [e2]; rfl
    unfold FS.let FS.spent
    rw [if_neg ht, if_neg ht, e, e2]
    rfl

set_option maxHeartbeats 1000000 in
theorem RErase_no {R C W M : Nat} {s : FS} {ms : List UInt8} (w : World) (h : RefAt w R C W M s ms) (a : Int) (hno : s.mayErase a ≠ 0) :
    Calls Try.prog 34 #[.pointer (some ⟨R, 0, none⟩), .int .i64 a] w fun e w' => e = .returned (.int .i64 (s.mayErase a)) ∧ w = w' := by
  obtain ⟨cc, cw, mv, c0, c1, c2, c3, c4, cf, rC, rW, rM⟩ := h.cells
  have hfew := h.few
  clear cf rC rW rM h c0 c2 c3
  cases hd : s.down with
  | true =>
    rw [hd] at c4
    have Hr := Lib.hid (show s.mayErase a = 12 by simp [FS.mayErase, hd])
    clear hd hno
    go_enter Try.func34, Try.ntmps34
    go_wp2
    go_ret
    exact ⟨by rw [Hr.out]; rfl, rfl⟩
  | false =>
    rw [hd] at c4
    by_cases hh : 0 ≤ a ∧ a < s.wear.length
    · exact absurd (by simp [FS.mayErase, hd, hh]) hno
    · have Hr := Lib.hid (show s.mayErase a = 10 by simp only [FS.mayErase, hd, if_pos hh]; rfl)
      clear hd hno
      by_cases h0 : a < 0
      · go_enter Try.func34, Try.ntmps34
        go_wp2
        go_ret
        exact ⟨by rw [Hr.out]; rfl, rfl⟩
      · have h1 : (s.wear.length : Int) ≤ a := by omega
        go_enter Try.func34, Try.ntmps34
        go_wp2
        go_ret
        exact ⟨by rw [Hr.out]; rfl, rfl⟩

set_option maxRecDepth 100000 in
set_option maxHeartbeats 2000000 in
theorem RErase_some {R C W M : Nat} {s : FS} {ms : List UInt8} (w : World) (h : RefAt w R C W M s ms) (A : Nat) (x : Int) (he : s.mayErase A = 0) (hx : s.wear[A]? = some x) (x0 : 0 ≤ x) (x1 : x < 9223372036854775807) :
    Calls Try.prog 34 #[.pointer (some ⟨R, 0, none⟩), .int .i64 A] w
      fun e w' => e = .returned (.int .i64 ({ s with wear := s.wear.set A (x + 1) }.let (A * 256) 256 gSet).2) ∧ RefAt w' R C W M ({ s with wear := s.wear.set A (x + 1) }.let (A * 256) 256 gSet).1 ms ∧ Keeps [R, C, W] w w' := by
  obtain ⟨cc, cw, mv, c0, c1, c2, c3, c4, cf, rC, rW, rM⟩ := h.cells
  obtain ⟨hd, hA0, hA1⟩ := FS.mayErase_zero he
  rw [hd] at c4
  have hlen := h.len
  have hfew := h.few
  have hwn := h.nRW
  have cx : w.cell? ⟨W, A, none⟩ = some (.int .i64 x) := rW.cell A (by rw [List.getElem?_map, hx]; rfl)
  have fx := rW.frozen A
  have hworn := h.worn A (x + 1)
  have hgo := Rgoes_any _ hworn.1
  have hlets := let_sets { s with wear := s.wear.set A (x + 1) } ms (A * 256) 256 h.mask (by show _ ≤ s.bs.length; omega)
  rw [hlets]
  have hA : A < s.wear.length := by omega
  have hAn : A * 256 + 256 ≤ s.bs.length := by omega
  obtain ⟨s1, hs1⟩ : ∃ s1, ({ s with wear := s.wear.set A (x + 1) } : FS).spent = s1 := ⟨_, rfl⟩
  obtain ⟨tn, htn⟩ : ∃ tn, ({ s with wear := s.wear.set A (x + 1) } : FS).tears = tn := ⟨_, rfl⟩
  have HS1 := Lib.hid (show s1.bs = s.bs by rw [← hs1]; exact spent_bs _)
  rw [hs1, htn] at hgo ⊢
  have HGO := Lib.hid hgo
  have HKW := Lib.hid hworn.2
  have HAn := Lib.hid hAn
  have hA65 : A < 256 := by omega
  have hbl : s.bs.length ≤ 65536 := by omega
  clear hd he hx hgo hworn hlets hs1 htn rC rW rM cf h hlen c0 c2 c3 hAn
  go_enter Try.func34, Try.ntmps34
  go_wp2_with fail
  refine HGO.out.mono ?_
  rintro e w1 ⟨rfl, h1, k1⟩
  have HR1 := Lib.hid h1
  have HK1 := Lib.hid (show Keeps [R, C, W] w w1 from (HKW.out.mono (by simp)).trans (k1.mono (by simp)))
  clear h1 k1 HGO HKW
  go_wp2
  go_loopw [6] (fun i wr => ∃ k : Nat, k ≤ 256 ∧ i = .int .i64 k ∧ RefAt wr R C W M { s1 with bs := span s.bs (A * 256) k (gSets tn ms) } ms ∧ Keeps [R, C, W] w wr) (fun i _ => 256 - (intOf i).toNat)
  case atStart => exact ⟨0, Nat.zero_le _, rfl, by rw [span_zero, with_bs _ _ HS1.out]; exact HR1.out, HK1.out⟩
  case round =>
    obtain ⟨k, hk, rfl, hRk, hKk⟩ := hrel
    by_cases hlt : k < 256
    · have hlt' : (k : Int) < 256 := by omega
      obtain ⟨cc', cw', mv', d0, d1, d2, d3, d4, df, rC, rW, rM⟩ := hRk.cells
      obtain ⟨old, hold⟩ : ∃ old, s.bs[A * 256 + k]? = some old := ⟨_, List.getElem?_eq_getElem (by have := HAn.out; omega)⟩
      have fz := rC.frozen (A * 256 + k)
      have q0 : wr.cell? ⟨C, A * 256 + k, none⟩ = some (bv old) := rC.cell (A * 256 + k) (by rw [List.getElem?_map]; show Option.map bv (span s.bs (A * 256) k (gSets tn ms))[A * 256 + k]? = _; rw [span_at, hold]; rfl)
      have hbl2 : (span s.bs (A * 256) k (gSets tn ms)).length = s.bs.length := span_length _ _ _ _
      rw [show ({ s1 with bs := span s.bs (A * 256) k (gSets tn ms) } : FS).bs.length = s.bs.length from hbl2] at d0
      have HKk := Lib.hid hKk
      have hAnk : A * 256 + k < s.bs.length := by have := HAn.out; omega
      have hin : (0 : Int) ≤ (A : Int) * 256 + k ∧ (A : Int) * 256 + k < s.bs.length := by omega
      have hin2 : ((A : Int) * 256 + k).toNat = A * 256 + k := by omega
      have HSS := Lib.hid (span_set s.bs (A * 256) k (gSets tn ms) old hold)
      cases tn
      · have HX := Lib.hid (hRk.byte (A * 256 + k) 255 (span s.bs (A * 256) (k + 1) (gSets false ms)) HSS.out)
        clear hold rC rW rM hRk hKk hbl2 d1 d2 d3 d4 df
        go_wp2
        go_roundw
        case rel => exact ⟨k + 1, by omega, by go_num, HX.out.1, HKk.out.trans (Keeps.setCell _ (by simp) _)⟩
        case measure => simp [intOf]; omega
      · have HX := Lib.hid (hRk.byte (A * 256 + k) 255 _ rfl)
        have hcap : A * 256 + k < (span s.bs (A * 256) k (gSets true ms)).length := by rw [hbl2]; exact hAnk
        have hss : ((span s.bs (A * 256) k (gSets true ms)).set (A * 256 + k) 255).set (A * 256 + k) (ms.getD k 0) = span s.bs (A * 256) (k + 1) (gSets true ms) := by
          rw [List.set_set]; exact HSS.out
        have HY := Lib.hid (HX.out.1.byte (A * 256 + k) (ms.getD k 0) _ hss)
        clear hold rC rW rM hRk hKk d1 d2 d3 d4 df hss
        go_wp2
        refine wp_region_tail 12 (by kernel_rfl) (by kernel_rfl) ?_
        intro w2 hw2
        have HR2 := Lib.hid (show RefAt w2 R C W M _ ms by rw [hw2]; exact HX.out.1.keeps (Keeps.drew [] _) (by simp) (by simp) (by simp) (by simp))
        obtain ⟨cc2, cw2, mv2, e0, e1, e2, e3, e4, ef, rC, rW, rM⟩ := HR2.out.cells
        have hbl3 : ((span s.bs (A * 256) k (gSets true ms)).set (A * 256 + k) 255).length = s.bs.length := by rw [List.length_set]; exact hbl2
        rw [show ({ ({ s1 with bs := span s.bs (A * 256) k (gSets true ms) } : FS) with bs := (span s.bs (A * 256) k (gSets true ms)).set (A * 256 + k) 255 } : FS).bs.length = s.bs.length from hbl3] at e0
        have g0 : w2.cell? ⟨C, A * 256 + k, none⟩ = some (bv 255) := rC.cell (A * 256 + k) (by rw [List.getElem?_map]; show Option.map bv (List.set _ _ _)[A * 256 + k]? = _; rw [List.getElem?_set_self hcap]; rfl)
        have f2 := rC.frozen (A * 256 + k)
        have HW := Lib.hid hw2
        clear hw2 rC rW rM e1 e2 e3 e4 ef hbl3 hbl2 hcap d0 q0 fz
        have ct := (Rmask_any w2 HR2.out k).mono (R' := fun e w' => e = .returned (bv (ms.getD k 0)) ∧ w' = w2) fun _ _ h => ⟨h.1, h.2.symm⟩
        have HY2 := Lib.hid (show RefAt (w2.setCell ⟨C, A * 256 + k, none⟩ (bv (ms.getD k 0))) R C W M { s1 with bs := span s.bs (A * 256) (k + 1) (gSets true ms) } ms by
          rw [HW.out]; exact HY.out.1.keeps (Keeps.drew [] _) (by simp) (by simp) (by simp) (by simp))
        generalize ms.getD k 0 = mk at *
        have CT := Lib.hid ct
        clear ct HY HSS
        have hwr0 : IntKind.i64.wrap ((A : Int) * 256) = (A : Int) * 256 := IntWalk.i64_in _ (by omega)
        have hwr : IntKind.i64.wrap ((A : Int) * 256 + k) = (A : Int) * 256 + k := IntWalk.i64_in _ (by omega)
        simp only [List.take_succ_cons, List.take_zero, List.drop_succ_cons, List.drop_zero]
        repeat still_step
        still_call CT.out
        repeat still_step
        refine wpStill_nil ?_
        unfold bv at *
        go_wp2
        go_roundw
        case rel => exact ⟨k + 1, by omega, by go_num, HY2.out, ((HKk.out.trans (HX.out.2.mono (by simp))).trans (by rw [HW.out]; exact Keeps.drew _ _)).trans (Keeps.setCell _ (by simp) _)⟩
        case measure => simp [intOf]; omega
    · obtain rfl : k = 256 := by omega
      have HRk := Lib.hid hRk
      have HKk := Lib.hid hKk
      clear hRk hKk
      cases tn
      all_goals
        go_wp2
        go_ret
        exact ⟨rfl, HRk.out, HKk.out⟩

theorem RErase_any {R C W M : Nat} {s : FS} {ms : List UInt8} (w : World) (h : RefAt w R C W M s ms) (a : Int) (hw : ∀ x ∈ s.wear, 0 ≤ x ∧ x < 9223372036854775807) :
    Calls Try.prog 34 #[.pointer (some ⟨R, 0, none⟩), .int .i64 a] w
      fun e w' => e = .returned (.int .i64 (s.erase a).2) ∧ RefAt w' R C W M (s.erase a).1 ms ∧ Keeps [R, C, W] w w' := by
  by_cases h0 : s.mayErase a = 0
  · have hp : s.erase a = { s with wear := s.wear.set a.toNat (s.wear.getD a.toNat 0 + 1) }.let (a.toNat * 256) 256 gSet := by unfold FS.erase; rw [if_neg (by simp [h0])]
    rw [hp]
    obtain ⟨_, ha, hlt⟩ := FS.mayErase_zero h0
    obtain ⟨A, rfl⟩ := Int.eq_ofNat_of_zero_le ha
    have hx : s.wear[A]? = some (s.wear.getD A 0) := by simp [List.getD, List.getElem?_eq_getElem (show A < s.wear.length by omega)]
    obtain ⟨x0, x1⟩ := hw _ (List.mem_of_getElem? hx)
    exact RErase_some w h A _ h0 hx x0 x1
  · have hp : s.erase a = (s, s.mayErase a) := by unfold FS.erase; rw [if_pos h0]
    rw [hp]
    exact (RErase_no w h a h0).mono fun _ w' q => ⟨q.1, q.2 ▸ h, q.2 ▸ Keeps.refl _ _⟩
end Go.Proofs.Ytpcgckppdnlccaa
