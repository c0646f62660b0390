/-
  FlashTells: what is answered of an erase, of arming, of power, of a read.
-/
import Derived.Test.YtpcgckppdnlccaaTellsG
namespace Go.Proofs.Ytpcgckppdnlccaa
open Go.RowKit Go.Deep

theorem Arm_no {F B W M : Nat} {s : FS} (w : World) (hF : FlashAt w F B W M s) (n : Int) (v : Value) (e : Int) (he : (if s.down then 12 else if n < 0 then 2 else 0) = e) (h0 : e ≠ 0) :
    Calls Try.prog 27 #[.pointer (some ⟨F, 0, none⟩), .int .i64 n, v] w fun e' w' => e' = .returned (.int .i64 e) ∧ w = w' := by
  cases hd : s.down
  · rw [hd] at he
    simp only [Bool.false_eq_true, if_false] at he
    by_cases hn : n < 0
    · rw [if_pos hn] at he; subst he; exact Arm_arg w hF n v hd hn
    · rw [if_neg hn] at he; omega
  · rw [hd] at he
    simp only [if_true] at he
    subst he
    exact Arm_down w hF n v hd

set_option maxHeartbeats 4000000 in
theorem answered_erase {F B W M R C V N : Nat} {s : FS} {ms : List UInt8} (w : World) (h : Both w F B W M R C V N s ms) (d a n : Int) (b cap : Nat) (l : List UInt8) (hb : Aside w F B W R C V b cap l) (hd : 0 ≤ d ∧ d ≤ 255) (h6 : d % 6 = 2) (hw : ∀ x ∈ s.wear, 0 ≤ x ∧ x < 9223372036854775807) :
    Calls Try.prog 14 #[.pointer (some ⟨F, 0, none⟩), .pointer (some ⟨R, 0, none⟩), .agg (opCells d a n b l.length cap)] w (Answered w F B W R C V M N (s.erase a).1) := by
  have HWE := Lib.hid hw
  clear hw
  have hlt := h.f.lt
  have hlr := h.r.lt
  obtain ⟨W0, hW0⟩ : ∃ W0, W0 = w.alloc (.cells (opCells d a n b l.length cap) 33) := ⟨_, rfl⟩
  have kA : Keeps [] w W0 := by rw [hW0]; exact Keeps.alloc [] _ _
  have o1 : W0.cell? ⟨w.heap.size, 1, none⟩ = some (.int .i64 a) := by rw [hW0, cell_alloc_new]; rfl
  have o3 : W0.cell? ⟨w.heap.size, 3, none⟩ = some (.slice (some ⟨b, 0, none⟩) l.length cap) := by rw [hW0, cell_alloc_new]; rfl
  have o0 : W0.cell? ⟨w.heap.size, 0, none⟩ = some (.int .u8 d) := by rw [hW0, cell_alloc_new]; rfl
  have HW := Lib.hid hW0
  have HB := Lib.hid (h.keeps kA (by simp))
  have HA := Lib.hid (hb.keeps kA (by simp))
  have KA := Lib.hid kA
  have H := Lib.hid h
  have hbl := hb.len
  have HF := Lib.hid h.aF
  have HBB := Lib.hid h.aB
  clear kA hb h hW0
  go_enter Try.func14, Try.ntmps14
  go_wp2
  rw [← HW.out]
  have S0 := Lib.hid (show Keeps [F, B, W, R, C, V] W0 W0 ∧ W0.cell? ⟨w.heap.size, 1, none⟩ = some (.int .i64 a) ∧ W0.cell? ⟨w.heap.size, 3, none⟩ = some (.slice (some ⟨b, 0, none⟩) l.length cap) from ⟨Keeps.refl _ _, o1, o3⟩)
  have S1 := Lib.hid (show Keeps [F, B, W, R, C, V] W0 W0.drew ∧ W0.drew.cell? ⟨w.heap.size, 1, none⟩ = some (.int .i64 a) ∧ W0.drew.cell? ⟨w.heap.size, 3, none⟩ = some (.slice (some ⟨b, 0, none⟩) l.length cap) from ⟨Keeps.drew _ _, o1, o3⟩)
  go_region_held3 (fun w' => Keeps [F, B, W, R, C, V] W0 w' ∧ w'.cell? ⟨w.heap.size, 1, none⟩ = some (.int .i64 a) ∧ w'.cell? ⟨w.heap.size, 3, none⟩ = some (.slice (some ⟨b, 0, none⟩) l.length cap)) (first | exact S0.out | exact S1.out | exact S2.out | exact S3.out) (first
    | (go_at_call 29; refine (Erase_yes W0.drew (HB.out.f.keeps (Keeps.drew [] _) (by simp) (by simp) (by simp) (by simp)) a HWE.out).mono ?_; rintro e w2 ⟨rfl, hf2, kk⟩; have S2 := Lib.hid (show Keeps [F, B, W, R, C, V] W0 w2 ∧ w2.cell? ⟨w.heap.size, 1, none⟩ = some (.int .i64 a) ∧ w2.cell? ⟨w.heap.size, 3, none⟩ = some (.slice (some ⟨b, 0, none⟩) l.length cap) from ⟨(Keeps.drew _ _).trans (kk.mono (by simp)), kk.cell o1 (by simp; omega), kk.cell o3 (by simp; omega)⟩); have HF2 := Lib.hid hf2; have K2 := Lib.hid ((Keeps.drew [F, B, W] W0).trans kk); clear hf2 kk)
    | (go_at_call 34; refine (RErase_any w2 (HB.out.r.keeps K2.out (by have := HF.out; have := HBB.out; have := HB.out.aW; have := HB.out.aN; simp; omega) (by have := HF.out; have := HBB.out; have := HB.out.aW; have := HB.out.aN; simp; omega) (by have := HF.out; have := HBB.out; have := HB.out.aW; have := HB.out.aN; simp; omega) (by have := HF.out; have := HBB.out; have := HB.out.aW; have := HB.out.aN; simp; omega)) a HWE.out).mono ?_; rintro e w3 ⟨rfl, hr3, kk⟩; have S3 := Lib.hid (show Keeps [F, B, W, R, C, V] W0 w3 ∧ w3.cell? ⟨w.heap.size, 1, none⟩ = some (.int .i64 a) ∧ w3.cell? ⟨w.heap.size, 3, none⟩ = some (.slice (some ⟨b, 0, none⟩) l.length cap) from ⟨S2.out.1.trans (kk.mono (by simp)), kk.cell S2.out.2.1 (by simp; omega), kk.cell S2.out.2.2 (by simp; omega)⟩); have HR3 := Lib.hid hr3; have HF3 := Lib.hid (HF2.out.keeps kk (by have := HF.out; simp; omega) (by have := HBB.out; simp; omega) (by have := HB.out.aW; simp; omega) (by have := HB.out.aM; simp; omega)); clear hr3 kk))
  go_wp2
  go_ret
  exact ⟨rfl, ⟨M, N, ms, { HB.out with f := HF3.out, r := HR3.out }, .inl rfl, .inl rfl⟩, (KA.out.mono (by simp)).trans S3.out.1⟩
set_option maxHeartbeats 4000000 in
theorem answered_arm_no {F B W M R C V N : Nat} {s : FS} {ms : List UInt8} (w : World) (h : Both w F B W M R C V N s ms) (d a n : Int) (b cap : Nat) (l : List UInt8) (hb : Aside w F B W R C V b cap l) (hd : 0 ≤ d ∧ d ≤ 255) (h6 : d % 6 = 3) (e0 : Int) (he : (if s.down then 12 else if a < 0 then 2 else 0) = e0) (h0 : e0 ≠ 0) :
    Calls Try.prog 14 #[.pointer (some ⟨F, 0, none⟩), .pointer (some ⟨R, 0, none⟩), .agg (opCells d a n b l.length cap)] w (Answered w F B W R C V M N s) := by
  have HE := Lib.hid he
  clear he
  have hlt := h.f.lt
  have hlr := h.r.lt
  obtain ⟨W0, hW0⟩ : ∃ W0, W0 = w.alloc (.cells (opCells d a n b l.length cap) 33) := ⟨_, rfl⟩
  have kA : Keeps [] w W0 := by rw [hW0]; exact Keeps.alloc [] _ _
  have o1 : W0.cell? ⟨w.heap.size, 1, none⟩ = some (.int .i64 a) := by rw [hW0, cell_alloc_new]; rfl
  have o3 : W0.cell? ⟨w.heap.size, 3, none⟩ = some (.slice (some ⟨b, 0, none⟩) l.length cap) := by rw [hW0, cell_alloc_new]; rfl
  have o0 : W0.cell? ⟨w.heap.size, 0, none⟩ = some (.int .u8 d) := by rw [hW0, cell_alloc_new]; rfl
  have HW := Lib.hid hW0
  have HB := Lib.hid (h.keeps kA (by simp))
  have HA := Lib.hid (hb.keeps kA (by simp))
  have KA := Lib.hid kA
  have H := Lib.hid h
  have hbl := hb.len
  have HF := Lib.hid h.aF
  have HBB := Lib.hid h.aB
  clear kA hb h hW0
  go_enter Try.func14, Try.ntmps14
  go_wp2
  rw [← HW.out]
  have S0 := Lib.hid (show Keeps [F, B, W, R, C, V] W0 W0 ∧ W0.cell? ⟨w.heap.size, 1, none⟩ = some (.int .i64 a) ∧ W0.cell? ⟨w.heap.size, 3, none⟩ = some (.slice (some ⟨b, 0, none⟩) l.length cap) from ⟨Keeps.refl _ _, o1, o3⟩)
  have S1 := Lib.hid (show Keeps [F, B, W, R, C, V] W0 W0.drew ∧ W0.drew.cell? ⟨w.heap.size, 1, none⟩ = some (.int .i64 a) ∧ W0.drew.cell? ⟨w.heap.size, 3, none⟩ = some (.slice (some ⟨b, 0, none⟩) l.length cap) from ⟨Keeps.drew _ _, o1, o3⟩)
  go_region_held3 (fun w' => Keeps [F, B, W, R, C, V] W0 w' ∧ w'.cell? ⟨w.heap.size, 1, none⟩ = some (.int .i64 a) ∧ w'.cell? ⟨w.heap.size, 3, none⟩ = some (.slice (some ⟨b, 0, none⟩) l.length cap)) (first | exact S0.out | exact S1.out) (first
    | (go_at_call 27; refine (Arm_no W0.drew (HB.out.f.keeps (Keeps.drew [] _) (by simp) (by simp) (by simp) (by simp)) a _ e0 HE.out h0).mono ?_; rintro e w2 ⟨rfl, rfl⟩)
    | (go_at_call 35; refine (RArm_no W0.drew (HB.out.r.keeps (Keeps.drew [] _) (by simp) (by simp) (by simp) (by simp)) a _ e0 HE.out h0).mono ?_; rintro e w3 ⟨rfl, rfl⟩))
  go_wp2
  go_ret
  exact ⟨rfl, ⟨M, N, ms, HB.out.keeps (Keeps.drew [] _) (by simp), .inl rfl, .inl rfl⟩, (KA.out.mono (by simp)).trans (Keeps.drew _ _)⟩
set_option maxHeartbeats 4000000 in
theorem answered_arm {F B W M R C V N : Nat} {s : FS} {ms : List UInt8} (w : World) (h : Both w F B W M R C V N s ms) (d a n : Int) (b cap : Nat) (l : List UInt8) (hb : Aside w F B W R C V b cap l) (hd : 0 ≤ d ∧ d ≤ 255) (h6 : d % 6 = 3) (hdn : s.down = false) (ha : 0 ≤ a ∧ a ≤ 9223372036854775807) :
    Calls Try.prog 14 #[.pointer (some ⟨F, 0, none⟩), .pointer (some ⟨R, 0, none⟩), .agg (opCells d a n b l.length cap)] w (Answered w F B W R C V M N (s.arm a l)) := by
  have HDN := Lib.hid hdn
  have HRM := Lib.hid (show l.length ≤ cap by have := hb.row.room; simpa using this)
  clear hdn
  have hlt := h.f.lt
  have hlr := h.r.lt
  obtain ⟨W0, hW0⟩ : ∃ W0, W0 = w.alloc (.cells (opCells d a n b l.length cap) 33) := ⟨_, rfl⟩
  have kA : Keeps [] w W0 := by rw [hW0]; exact Keeps.alloc [] _ _
  have o1 : W0.cell? ⟨w.heap.size, 1, none⟩ = some (.int .i64 a) := by rw [hW0, cell_alloc_new]; rfl
  have o3 : W0.cell? ⟨w.heap.size, 3, none⟩ = some (.slice (some ⟨b, 0, none⟩) l.length cap) := by rw [hW0, cell_alloc_new]; rfl
  have o0 : W0.cell? ⟨w.heap.size, 0, none⟩ = some (.int .u8 d) := by rw [hW0, cell_alloc_new]; rfl
  have HW := Lib.hid hW0
  have HB := Lib.hid (h.keeps kA (by simp))
  have HA := Lib.hid (hb.keeps kA (by simp))
  have KA := Lib.hid kA
  have H := Lib.hid h
  have hbl := hb.len
  have HF := Lib.hid h.aF
  have HBB := Lib.hid h.aB
  clear kA hb h hW0
  go_enter Try.func14, Try.ntmps14
  go_wp2
  rw [← HW.out]
  have HCL := Lib.hid (show ∀ i c, l[i]? = some c → W0.drew.cell? ((⟨b, 0, none⟩ : Addr).add i) = some (bv c) from fun i c hi => by rw [Addr.add_off, Nat.zero_add]; exact HA.out.row.cell i (by simp [hi]))
  have S0 := Lib.hid (show Keeps [F, B, W, R, C, V] W0 W0 ∧ W0.cell? ⟨w.heap.size, 1, none⟩ = some (.int .i64 a) ∧ W0.cell? ⟨w.heap.size, 3, none⟩ = some (.slice (some ⟨b, 0, none⟩) l.length cap) from ⟨Keeps.refl _ _, o1, o3⟩)
  have S1 := Lib.hid (show Keeps [F, B, W, R, C, V] W0 W0.drew ∧ W0.drew.cell? ⟨w.heap.size, 1, none⟩ = some (.int .i64 a) ∧ W0.drew.cell? ⟨w.heap.size, 3, none⟩ = some (.slice (some ⟨b, 0, none⟩) l.length cap) from ⟨Keeps.drew _ _, o1, o3⟩)
  go_region_held3 (fun w' => Keeps [F, B, W, R, C, V] W0 w' ∧ w'.cell? ⟨w.heap.size, 1, none⟩ = some (.int .i64 a) ∧ w'.cell? ⟨w.heap.size, 3, none⟩ = some (.slice (some ⟨b, 0, none⟩) l.length cap)) (first | exact S0.out | exact S1.out | exact S2.out | exact S3.out) (first
    | (go_at_call 27; refine (Arm_some W0.drew (HB.out.f.keeps (Keeps.drew [] _) (by simp) (by simp) (by simp) (by simp)) a HDN.out ha.1 ha.2 ⟨b, 0, none⟩ l.length cap l rfl HRM.out (by omega) HCL.out).mono ?_; rintro e w2 ⟨rfl, hex⟩; obtain ⟨M2, hM2, hf2, kk⟩ := hex; have S2 := Lib.hid (show Keeps [F, B, W, R, C, V] W0 w2 ∧ w2.cell? ⟨w.heap.size, 1, none⟩ = some (.int .i64 a) ∧ w2.cell? ⟨w.heap.size, 3, none⟩ = some (.slice (some ⟨b, 0, none⟩) l.length cap) from ⟨(Keeps.drew _ _).trans (kk.mono (by simp)), kk.cell o1 (by simp; omega), kk.cell o3 (by simp; omega)⟩); have HF2 := Lib.hid hf2; have K2 := Lib.hid ((Keeps.drew [F] W0).trans kk); have HM2 := Lib.hid hM2; clear hf2 kk hM2)
    | (go_at_call 35; refine (RArm_some w2 (HB.out.r.keeps K2.out (by have := HF.out; have := HBB.out; have := HB.out.aW; have := HB.out.aN; simp; omega) (by have := HF.out; have := HBB.out; have := HB.out.aW; have := HB.out.aN; simp; omega) (by have := HF.out; have := HBB.out; have := HB.out.aW; have := HB.out.aN; simp; omega) (by have := HF.out; have := HBB.out; have := HB.out.aW; have := HB.out.aN; simp; omega)) a HDN.out ha.1 ha.2 b cap l (HA.out.row.keeps K2.out (by have := HA.out.nF; simp; omega)) (by omega) HA.out.nR.1).mono ?_; rintro e w3 ⟨rfl, hex⟩; obtain ⟨N3, hN3, hr3, kk⟩ := hex; have S3 := Lib.hid (show Keeps [F, B, W, R, C, V] W0 w3 ∧ w3.cell? ⟨w.heap.size, 1, none⟩ = some (.int .i64 a) ∧ w3.cell? ⟨w.heap.size, 3, none⟩ = some (.slice (some ⟨b, 0, none⟩) l.length cap) from ⟨S2.out.1.trans (kk.mono (by simp)), kk.cell S2.out.2.1 (by simp; omega), kk.cell S2.out.2.2 (by simp; omega)⟩); have HR3 := Lib.hid hr3; have HF3 := Lib.hid (HF2.out.keeps kk (by have := HF.out; simp; omega) (by have := HBB.out; simp; omega) (by have := HB.out.aW; simp; omega) (by have := HM2.out; have := HB.out.r.lt; have e : W0.drew.heap.size = W0.heap.size := rfl; simp; omega)); have HN3 := Lib.hid hN3; clear hr3 kk hN3))
  go_wp2
  go_ret
  have q1 := HM2.out
  have q2 := HN3.out
  have q3 := HB.out.r.lt
  have q4 := HB.out.f.lt
  have q5 := K2.out.size
  have e : W0.drew.heap.size = W0.heap.size := rfl
  have q6 := KA.out.size
  exact ⟨rfl, ⟨M2, N3, l, { f := HF3.out, r := HR3.out, aF := HB.out.aF, aB := HB.out.aB, aW := HB.out.aW, aM := ⟨by omega, by omega, by omega⟩, aN := ⟨by omega, by omega, by omega⟩ }, .inr (by omega), .inr (by omega)⟩, (KA.out.mono (by simp)).trans S3.out.1⟩
set_option maxHeartbeats 4000000 in
theorem answered_up {F B W M R C V N : Nat} {s : FS} {ms : List UInt8} (w : World) (h : Both w F B W M R C V N s ms) (d a n : Int) (b cap : Nat) (l : List UInt8) (hb : Aside w F B W R C V b cap l) (hd : 0 ≤ d ∧ d ≤ 255) (h6 : d % 6 = 4) :
    Calls Try.prog 14 #[.pointer (some ⟨F, 0, none⟩), .pointer (some ⟨R, 0, none⟩), .agg (opCells d a n b l.length cap)] w (Answered w F B W R C V M N s.up) := by
  have hlt := h.f.lt
  have hlr := h.r.lt
  obtain ⟨W0, hW0⟩ : ∃ W0, W0 = w.alloc (.cells (opCells d a n b l.length cap) 33) := ⟨_, rfl⟩
  have kA : Keeps [] w W0 := by rw [hW0]; exact Keeps.alloc [] _ _
  have o1 : W0.cell? ⟨w.heap.size, 1, none⟩ = some (.int .i64 a) := by rw [hW0, cell_alloc_new]; rfl
  have o3 : W0.cell? ⟨w.heap.size, 3, none⟩ = some (.slice (some ⟨b, 0, none⟩) l.length cap) := by rw [hW0, cell_alloc_new]; rfl
  have o0 : W0.cell? ⟨w.heap.size, 0, none⟩ = some (.int .u8 d) := by rw [hW0, cell_alloc_new]; rfl
  have HW := Lib.hid hW0
  have HB := Lib.hid (h.keeps kA (by simp))
  have HA := Lib.hid (hb.keeps kA (by simp))
  have KA := Lib.hid kA
  have H := Lib.hid h
  have hbl := hb.len
  have HF := Lib.hid h.aF
  have HBB := Lib.hid h.aB
  clear kA hb h hW0
  go_enter Try.func14, Try.ntmps14
  go_wp2_with fail
  rw [← HW.out]
  refine (RUp_any _ HB.out.r).mono ?_
  rintro e w2 ⟨rfl, hr2, kk⟩
  have HR2 := Lib.hid hr2
  have K2 := Lib.hid kk
  clear hr2 kk
  go_wp2_with (go_at_call 17; refine (Up_yes _ (HB.out.f.keeps K2.out (by have := HF.out; simp; omega) (by have := HBB.out; simp; omega) (by have := HB.out.aW; simp; omega) (by have := HB.out.aM; simp; omega))).mono ?_; rintro e w3 ⟨rfl, hf3, kk⟩; have HF3 := Lib.hid hf3; have K3 := Lib.hid kk; clear hf3 kk)
  go_ret
  have q3 := HB.out.r.lt
  have q4 := HB.out.f.lt
  exact ⟨rfl, ⟨M, N, ms, { HB.out with f := HF3.out, r := HR2.out.keeps K3.out (by have := HF.out; simp; omega) (by have := HF.out; simp; omega) (by have := HF.out; simp; omega) (by have := HB.out.aN; simp; omega) }, .inl rfl, .inl rfl⟩, (KA.out.mono (by simp)).trans ((K2.out.mono (by simp)).trans (K3.out.mono (by simp)))⟩
end Go.Proofs.Ytpcgckppdnlccaa
