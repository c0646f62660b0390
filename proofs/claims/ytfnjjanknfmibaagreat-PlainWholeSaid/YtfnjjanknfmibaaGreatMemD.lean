/-
  Memories: Move, Show, New, the calls of a memory that is none.
-/
import Derived.Test.YtfnjjanknfmibaaGreatMemC
namespace Go.Proofs.YtfnjjanknfmibaaGreat
open Go.RowKit Go.Deep
set_option linter.unusedVariables false

section
variable {w : World} {H g rb M : Nat} {wv : Value} {win ram : List UInt8}

theorem pL_none {A : Nat} {bs : List UInt8} (h : ¬ (inAt 1048576 ram A bs.length ∧ 0 < bs.length)) : pL ram A bs = ram := by
  unfold pL
  split
  · next hi =>
    obtain rfl : bs = [] := by by_cases hz : bs = []; exact hz; exact absurd ⟨hi, List.length_pos_iff.2 hz⟩ h
    unfold inAt at hi
    simp at hi
    exact putAt_nil _ _ (by omega)
  · rfl

set_option maxRecDepth 100000 in
set_option maxHeartbeats 2000000 in
theorem Move_at (h : MemAt w H g rb M wv win ram) (A B n : Nat) (a1 : A < 4294967296) (b1 : B < 4294967296) (n1 : n < 4294967296) :
    Calls Tryz.prog 108 #[.pointer (some ⟨g, 0, none⟩), .int .u32 A, .int .u32 B, .int .u32 n] w fun e w' => e = .returned (.int .i32 (moveT win ram A B n)) ∧ MemAt w' H g rb M wv win (moveL win ram A B n) ∧ Keeps [rb] w w' := by
  unfold moveT moveL
  by_cases ht : tT win ram A n = 0
  · rw [if_pos ht, if_pos ht]
    have HT := Lib.hid (there_any h A n a1 n1)
    have hgl := gL_length ht
    rw [ht] at HT
    by_cases hin : inAt 1048576 ram B n ∧ 0 < n
    · obtain ⟨hin, n0⟩ := hin
      have hp : pL ram B (gL win ram A n) = putAt ram (B - 1048576) (gL win ram A n) := by unfold pL; rw [hgl, if_pos hin]
      have hpt : pT win ram B n = 0 := by unfold pT; rw [if_pos hin]
      rw [hp, hpt]
      have HW := Lib.hid (fun (w' : World) (hk : Keeps [] w w') => writable_in (h.next hk) B n hin n0)
      unfold inAt at hin
      have HKN := Lib.hid (show B - 1048576 + n ≤ ram.length ∧ ram.length ≤ 65536 from by have := h.ram4; omega)
      have hnb : n ≤ 65536 := by have := h.ram4; omega
      have HM := Lib.hid h
      clear h hin hp hpt ht
      generalize B - 1048576 = k at *
      generalize gL win ram A n = bs at *
      have HBL := Lib.hid hgl
      clear hgl
      go_enter Tryz.func108, Tryz.ntmps108
      go_upto_region 5 with (first | (go_at_call 19; refine HT.out.mono ?_; rintro e w1 ⟨a, m, Mx, rfl, hm, hr, hM0, hk⟩; obtain rfl : m = n := hm.trans HBL.out; have HK := Lib.hid hk; have HR := Lib.hid hr; clear hm hr hM0 hk) | (go_at_call 154; refine (HW.out w1 HK.out).mono ?_; rintro e w2 ⟨rfl, hk⟩; have HK2 := Lib.hid (HK.out.trans hk); have HR2 := Lib.hid (HR.out.ifKept hk (by simp)); clear hk))
      have hcp : ∀ ty, (Builtin.copy_ #[23, 23] ty #[.slice (some ⟨rb, k, none⟩) m m, .slice a m m]).run Tryz.prog w2 = .ok (.int .i64 m) (w2.setCells rb k (bs.map bv)) := by
        intro ty
        rcases HR2.out with ⟨hv, he⟩ | ⟨ad, cap, hv, _, _, hc⟩
        · exfalso; have := HBL.out; rw [he] at this; simp at this; omega
        · injection hv with e1 _ _
          subst e1
          have hrow := (HM.out.next HK2.out).row
          have hlen : ∀ j, j < (bs.map bv).length → k + j < (ram.map bv).length := by
            intro j hj; rw [List.length_map] at hj ⊢; have := HKN.out; have := HBL.out; omega
          have := run_copy_cells (P := Tryz.prog) w2 23 23 ty 5 rb k m m ad m m (bs.map bv) Tryz.underlying23 szByte (by rw [List.length_map, HBL.out]; simp)
            (fun j v hv => by rw [List.getElem?_map] at hv; obtain ⟨c, h1, rfl⟩ := Option.map_eq_some_iff.1 hv; exact hc j c h1)
            (fun j hj => by rw [hrow.cell, List.getElem?_eq_getElem (hlen j hj)]; rfl) (fun j hj => hrow.frozen _) (one_bytes _)
          rw [this, List.length_map, HBL.out]
          rfl
      have HN := Lib.hid (show MemAt (w2.setCells rb k (bs.map bv)) H g rb M wv win (putAt ram k bs) from by
        have hrow := (HM.out.next HK2.out).row
        refine (HM.out.next HK2.out).put (Keeps.setCells _ (by simp) _ _) ?_ (putAt_length _ _ _ (by have := HKN.out; rw [HBL.out]; omega))
        have hsplit : ram.map bv = (ram.take k).map bv ++ (((ram.drop k).take m).map bv ++ (ram.drop (k + m)).map bv) := by
          rw [← List.map_append, ← List.map_append, ← List.drop_drop, List.take_append_drop, List.take_append_drop]
        rw [hsplit] at hrow
        have := hrow.setCells (bs.map bv) k (by have := HKN.out; simp; omega) (by have := HKN.out; rw [List.length_map, HBL.out]; simp; omega)
        unfold putAt
        rw [List.map_append, List.map_append, HBL.out]
        exact this)
      have HKS := Lib.hid (Keeps.setCells (S := [rb]) w2 (b := rb) (by simp) k (bs.map bv))
      generalize World.setCells w2 rb k (bs.map bv) = w3 at *
      go_wp2
      go_ret
      exact ⟨rfl, HN.out, (HK2.out.mono (by simp)).trans HKS.out⟩
    · have HW := Lib.hid (fun (w' : World) (hk : Keeps [] w w') => writable_no (h.next hk) B n b1 n1 hin)
      rw [pL_none (by rw [hgl]; exact hin)]
      have HM := Lib.hid h
      clear h hin ht
      generalize gL win ram A n = bs at *
      generalize pT win ram B n = t at *
      have HBL := Lib.hid hgl
      clear hgl
      have hcp : ∀ w a b m ty, (Builtin.copy_ #[23, 23] ty #[.slice a 0 0, .slice b m m]).run Tryz.prog w = .ok (.int .i64 0) w := by
        intro w a b m ty
        exact run_copy_none (P := Tryz.prog) w 23 23 ty 5 a b 0 0 m m Tryz.underlying23 szByte (by simp)
      go_enter Tryz.func108, Tryz.ntmps108
      go_wp2_with (first | (go_at_call 19; refine HT.out.mono ?_; rintro e w1 ⟨a, m, Mx, rfl, hm, hr, hM0, hk⟩; have HK := Lib.hid hk; clear hm hr hM0 hk) | (go_at_call 154; refine (HW.out w1 HK.out).mono ?_; rintro e w2 ⟨a2, rfl, hk⟩; have HK2 := Lib.hid (HK.out.trans hk); clear hk))
      go_ret
      exact ⟨rfl, HM.out.next HK2.out, HK2.out.mono (by simp)⟩
  · rw [if_neg ht, if_neg ht]
    have HT := Lib.hid (there_fail h A n a1 n1 ht)
    have HM := Lib.hid h
    clear h ht
    go_enter Tryz.func108, Tryz.ntmps108
    go_wp2_with (first | (go_at_call 19; refine HT.out.mono ?_; rintro e w1 ⟨a, rfl, hk⟩; have HK := Lib.hid hk; clear hk))
    go_ret
    exact ⟨rfl, HM.out.next HK.out, HK.out.mono (by simp)⟩
end
end Go.Proofs.YtfnjjanknfmibaaGreat
