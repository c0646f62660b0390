/-
  What does an operation, with whichever closure.
-/
import Derived.Test.YtlnmbfddhdjioaaGreatFlashBase
namespace Go.Proofs.YtlnmbfddhdjioaaGreat
open Go.RowKit

set_option maxRecDepth 100000 in
set_option maxHeartbeats 1000000 in
theorem done_torn_set (w : World) (B a n cap cb F : Nat) (bs m : List UInt8) (mv : Value) (M : Nat)
    (rB : Row w B 5 (bs.map bv) cb) (hn : a + n ≤ bs.length) (hl : bs.length ≤ 65536) (hml : m.length ≤ 65536)
    (h6 : w.cell? ⟨F, 6, none⟩ = some mv) (hF : F ≠ B) (rM : Reads w mv m M) (hM : M ≠ B)
 :
    Calls Tryz.prog 75 #[.agg #[.slice (some ⟨B, a, none⟩) n cap, .func (.func 73) #[] #[]], .func (.func 98) #[.pointer (some ⟨F, 3, none⟩)] #[]] w
      fun e w' => e = .returned (.tuple #[]) ∧ Row w' B 5 ((span bs a n fun i _ => m.getD i 0).map bv) cb ∧ Keeps [B] w w' := by
  have hbB : B < w.heap.size := rB.lt
  have HRM := Lib.hid rM
  have HRB := Lib.hid rB
  clear rB rM
  go_enter Tryz.func75, Tryz.ntmps75
  go_wp2
  go_loopw [9] (fun i wr => ∃ k : Nat, k ≤ n ∧ i = .int .i64 k ∧ Row wr B 5 ((span bs a k fun i _ => m.getD i 0).map bv) cb ∧
    Keeps [B] (w.alloc (.cells #[.slice (some ⟨B, a, none⟩) n cap, .func (.func 73) #[] #[]] 130)) wr) (fun i _ => n - (intOf i).toNat)
  case atStart => exact ⟨0, Nat.zero_le _, rfl, by rw [span_zero]; exact (HRB.out.keeps (Keeps.alloc [] w _) (by simp)), Keeps.refl _ _⟩
  case round =>
    obtain ⟨k, hk, rfl, rB, kp⟩ := hrel
    by_cases hlt : k < n
    · have hlt' : (k : Int) < n := by omega
      have hold : bs[a + k]? = some bs[a + k] := List.getElem?_eq_getElem (by omega)
      have kp1 : Keeps [B] w wr := (Keeps.alloc [B] w _).trans kp
      have q0 : wr.cell? ⟨B, a + k, none⟩ = some (bv bs[a + k]) := rB.cell (a + k) (by rw [List.getElem?_map, span_at, hold]; rfl)
      have HX := Lib.hid (span_more bs a k (fun i _ => m.getD i 0) _ hold)
      have HS := Lib.hid (rB.set (a + k) (bv (m.getD k 0)))
      have p0 : wr.cell? ⟨w.heap.size, 0, none⟩ = some (.slice (some ⟨B, a, none⟩) n cap) := kp.cell (by rw [cell_alloc_new]; rfl) (by simp; omega)
      have p1 : wr.cell? ⟨w.heap.size, 1, none⟩ = some (.func (.func 73) #[] #[]) := kp.cell (by rw [cell_alloc_new]; rfl) (by simp; omega)
      have p6 : wr.cell? ⟨F, 6, none⟩ = some mv := kp1.cell h6 (by simpa using hF)
      have PM := Lib.hid (HRM.out.keeps kp1 (by simpa using hM))
      have KP := Lib.hid kp
      have fz := rB.frozen (a + k)
      generalize bs[a + k] = old at *
      generalize hT : m.getD k 0 = tk at *
      have HT := Lib.hid hT
      clear hold kp1 rB kp h6 hT
      go_wp2
      refine wp_region_tail 12 (by kernel_rfl) (by kernel_rfl) ?_
      intro w2 hw2
      have p0 : w2.cell? ⟨w.heap.size, 0, none⟩ = some (.slice (some ⟨B, a, none⟩) n cap) := by rw [hw2]; exact p0
      have p1 : w2.cell? ⟨w.heap.size, 1, none⟩ = some (.func (.func 73) #[] #[]) := by rw [hw2]; exact p1
      have p6 : w2.cell? ⟨F, 6, none⟩ = some mv := by rw [hw2]; exact p6
      have q0 : w2.cell? ⟨B, a + k, none⟩ = some (bv old) := by rw [hw2]; exact q0
      have fz : w2.frozen? ⟨B, a + k, none⟩ = false := by rw [hw2]; exact fz
      have PM := Lib.hid (show Reads w2 mv m M by rw [hw2]; exact PM.out)
      have HW := Lib.hid hw2
      clear hw2
      have ct := torn_any w2 F M mv m k hml p6 PM.out
      rw [HT.out] at ct
      have cl := (set_any w2 k (bv old) (bv tk)).mono (R' := fun e w' => e = .returned (bv tk) ∧ w' = w2) fun _ _ h => ⟨h.1, h.2.symm⟩
      have CT := Lib.hid ct
      have CL := Lib.hid cl
      clear ct cl
      simp only [List.take_succ_cons, List.take_zero, List.drop_succ_cons, List.drop_zero]
      repeat still_step
      still_call CT.out
      repeat still_step
      still_call CL.out
      repeat still_step
      refine wpStill_nil ?_
      have HS := Lib.hid (show Row (w2.setCell ⟨B, a + k, none⟩ (bv tk)) B 5 _ cb by rw [HW.out]; exact HS.out.keeps (Keeps.drew [] _) (by simp))
      unfold bv at *
      go_wp2
      go_roundw
      case rel =>
        refine ⟨k + 1, by omega, by go_num, ?_, ?_⟩
        · have := HS.out
          rw [HX.out] at this
          exact this
        · exact (KP.out.trans (by rw [HW.out]; exact Keeps.drew _ _)).trans (Keeps.setCell _ (by simp) _)
      case measure => simp [intOf]; omega
    · have hkn : k = n := by omega
      subst hkn
      have RB := Lib.hid rB
      have KP := Lib.hid ((Keeps.alloc [B] w _).trans kp)
      clear rB kp h6
      go_wp2
      go_end0
      exact ⟨rfl, RB.out, KP.out⟩

set_option maxRecDepth 100000 in
set_option maxHeartbeats 1000000 in
theorem done_whole_set (w : World) (B a n cap cb : Nat) (bs : List UInt8)
    (rB : Row w B 5 (bs.map bv) cb) (hn : a + n ≤ bs.length) (hl : bs.length ≤ 65536)
   
 :
    Calls Tryz.prog 75 #[.agg #[.slice (some ⟨B, a, none⟩) n cap, .func (.func 73) #[] #[]], .func (.func 97) #[] #[]] w
      fun e w' => e = .returned (.tuple #[]) ∧ Row w' B 5 ((span bs a n fun _ _ => 255).map bv) cb ∧ Keeps [B] w w' := by
  have hbB : B < w.heap.size := rB.lt
  have HRB := Lib.hid rB
  clear rB
  go_enter Tryz.func75, Tryz.ntmps75
  go_wp2
  go_loopw [9] (fun i wr => ∃ k : Nat, k ≤ n ∧ i = .int .i64 k ∧ Row wr B 5 ((span bs a k fun _ _ => 255).map bv) cb ∧
    Keeps [B] (w.alloc (.cells #[.slice (some ⟨B, a, none⟩) n cap, .func (.func 73) #[] #[]] 130)) wr) (fun i _ => n - (intOf i).toNat)
  case atStart => exact ⟨0, Nat.zero_le _, rfl, by rw [span_zero]; exact (HRB.out.keeps (Keeps.alloc [] w _) (by simp)), Keeps.refl _ _⟩
  case round =>
    obtain ⟨k, hk, rfl, rB, kp⟩ := hrel
    by_cases hlt : k < n
    · have hlt' : (k : Int) < n := by omega
      have hold : bs[a + k]? = some bs[a + k] := List.getElem?_eq_getElem (by omega)
      have kp1 : Keeps [B] w wr := (Keeps.alloc [B] w _).trans kp
      have q0 : wr.cell? ⟨B, a + k, none⟩ = some (bv bs[a + k]) := rB.cell (a + k) (by rw [List.getElem?_map, span_at, hold]; rfl)
      have HX := Lib.hid (span_more bs a k (fun _ _ => 255) _ hold)
      have HS := Lib.hid (rB.set (a + k) (bv (255)))
      have p0 : wr.cell? ⟨w.heap.size, 0, none⟩ = some (.slice (some ⟨B, a, none⟩) n cap) := kp.cell (by rw [cell_alloc_new]; rfl) (by simp; omega)
      have p1 : wr.cell? ⟨w.heap.size, 1, none⟩ = some (.func (.func 73) #[] #[]) := kp.cell (by rw [cell_alloc_new]; rfl) (by simp; omega)
      have KP := Lib.hid kp
      have fz := rB.frozen (a + k)
      generalize bs[a + k] = old at *
      clear hold kp1 rB kp
      go_wp2
      refine wp_region_tail 12 (by kernel_rfl) (by kernel_rfl) ?_
      intro w2 hw2
      have p0 : w2.cell? ⟨w.heap.size, 0, none⟩ = some (.slice (some ⟨B, a, none⟩) n cap) := by rw [hw2]; exact p0
      have p1 : w2.cell? ⟨w.heap.size, 1, none⟩ = some (.func (.func 73) #[] #[]) := by rw [hw2]; exact p1
      have q0 : w2.cell? ⟨B, a + k, none⟩ = some (bv old) := by rw [hw2]; exact q0
      have fz : w2.frozen? ⟨B, a + k, none⟩ = false := by rw [hw2]; exact fz
      have HW := Lib.hid hw2
      clear hw2
      have ct := (whole_any w2 k).mono (R' := fun e w' => e = .returned (bv 255) ∧ w' = w2) fun _ _ h => ⟨h.1, h.2.symm⟩
      have cl := (set_any w2 k (bv old) (bv 255)).mono (R' := fun e w' => e = .returned (bv 255) ∧ w' = w2) fun _ _ h => ⟨h.1, h.2.symm⟩
      have CT := Lib.hid ct
      have CL := Lib.hid cl
      clear ct cl
      simp only [List.take_succ_cons, List.take_zero, List.drop_succ_cons, List.drop_zero]
      repeat still_step
      still_call CT.out
      repeat still_step
      still_call CL.out
      repeat still_step
      refine wpStill_nil ?_
      have HS := Lib.hid (show Row (w2.setCell ⟨B, a + k, none⟩ (bv 255)) B 5 _ cb by rw [HW.out]; exact HS.out.keeps (Keeps.drew [] _) (by simp))
      unfold bv at *
      go_wp2
      go_roundw
      case rel =>
        refine ⟨k + 1, by omega, by go_num, ?_, ?_⟩
        · have := HS.out
          rw [HX.out] at this
          exact this
        · exact (KP.out.trans (by rw [HW.out]; exact Keeps.drew _ _)).trans (Keeps.setCell _ (by simp) _)
      case measure => simp [intOf]; omega
    · have hkn : k = n := by omega
      subst hkn
      have RB := Lib.hid rB
      have KP := Lib.hid ((Keeps.alloc [B] w _).trans kp)
      clear rB kp
      go_wp2
      go_end0
      exact ⟨rfl, RB.out, KP.out⟩

end Go.Proofs.YtlnmbfddhdjioaaGreat
