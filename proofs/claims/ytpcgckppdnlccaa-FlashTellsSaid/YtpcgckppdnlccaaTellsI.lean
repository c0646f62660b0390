/-
  FlashTells: what is answered of a read, and of any operation.
-/
import Derived.Test.YtpcgckppdnlccaaTellsH
namespace Go.Proofs.Ytpcgckppdnlccaa
open Go.RowKit Go.Deep

theorem Read_no {F B W M : Nat} {s : FS} (w : World) (hF : FlashAt w F B W M s) (a n e : Int) (hn : n ≤ 9223372036854775807) (he : (if s.down then 12 else if s.has a n then 0 else 10) = e) (h0 : e ≠ 0) :
    Calls Try.prog 19 #[.pointer (some ⟨F, 0, none⟩), .int .i64 a, .int .i64 n] w fun e' w' => e' = .returned (.tuple #[.slice none 0 0, .int .i64 e]) ∧ w = w' := by
  cases hd : s.down
  · rw [hd] at he
    simp only [Bool.false_eq_true, if_false] at he
    by_cases hh : s.has a n
    · rw [if_pos hh] at he; omega
    · rw [if_neg hh] at he; subst he; exact Read_out w hF a n hn hd hh
  · rw [hd] at he
    simp only [if_true] at he
    subst he
    exact Read_down w hF a n hd

theorem RRead_int {R C W M : Nat} {s : FS} {ms : List UInt8} (w : World) (h : RefAt w R C W M s ms) (a n : Int) (hd : s.down = false) (hh : s.has a n) :
    Calls Try.prog 36 #[.pointer (some ⟨R, 0, none⟩), .int .i64 a, .int .i64 n] w fun e w' => ∃ b c, e = .returned (.tuple #[.slice (some ⟨b, 0, none⟩) n.toNat c, .int .i64 0]) ∧ w.heap.size ≤ b ∧
      Row w' b 5 ((s.part a n).map bv) c ∧ Keeps [] w w' := by
  obtain ⟨A, rfl⟩ := Int.eq_ofNat_of_zero_le hh.1
  obtain ⟨K, rfl⟩ := Int.eq_ofNat_of_zero_le hh.2.1
  exact RRead_some w h A K hd hh

set_option maxHeartbeats 4000000 in
theorem answered_read_no {F B W M R C V N : Nat} {s : FS} {ms : List UInt8} (w : World) (h : Both w F B W M R C V N s ms) (d a n : Int) (b cap : Nat) (l : List UInt8) (hb : Aside w F B W R C V b cap l) (hd : 0 ≤ d ∧ d ≤ 255) (h6 : d % 6 = 5) (hn : n ≤ 9223372036854775807) (e0 : Int) (he : (if s.down then 12 else if s.has a n then 0 else 10) = e0) (h0 : e0 ≠ 0) :
    Calls Try.prog 14 #[.pointer (some ⟨F, 0, none⟩), .pointer (some ⟨R, 0, none⟩), .agg (opCells d a n b l.length cap)] w (Answered w F B W R C V M N s) := by
  have HE := Lib.hid he
  clear he
  have hlt := h.f.lt
  have hlr := h.r.lt
  obtain ⟨W0, hW0⟩ : ∃ W0, W0 = w.alloc (.cells (opCells d a n b l.length cap) 33) := ⟨_, rfl⟩
  have kA : Keeps [] w W0 := by rw [hW0]; exact Keeps.alloc [] _ _
  have o1 : W0.cell? ⟨w.heap.size, 1, none⟩ = some (.int .i64 a) := by rw [hW0, cell_alloc_new]; rfl
  have o3 : W0.cell? ⟨w.heap.size, 3, none⟩ = some (.slice (some ⟨b, 0, none⟩) l.length cap) := by rw [hW0, cell_alloc_new]; rfl
  have o0 : W0.cell? ⟨w.heap.size, 0, none⟩ = some (.int .u8 d) := by rw [hW0, cell_alloc_new]; rfl
  have HW := Lib.hid hW0
  have HB := Lib.hid (h.keeps kA (by simp))
  have HA := Lib.hid (hb.keeps kA (by simp))
  have KA := Lib.hid kA
  have H := Lib.hid h
  have hbl := hb.len
  have HF := Lib.hid h.aF
  have HBB := Lib.hid h.aB
  clear kA hb h hW0
  have o2 : W0.cell? ⟨w.heap.size, 2, none⟩ = some (.int .i64 n) := by rw [HW.out, cell_alloc_new]; rfl
  go_enter Try.func14, Try.ntmps14
  go_wp2_with fail
  rw [← HW.out]
  refine (Read_no _ HB.out.f a n e0 hn HE.out h0).mono ?_
  rintro e w2 ⟨rfl, rfl⟩
  go_wp2_with fail
  refine (RRead_no _ HB.out.r a n e0 HE.out h0).mono ?_
  rintro e w2 ⟨rfl, rfl⟩
  go_wp2_with fail
  refine (Is_any _ _ _ [] [] 0 0 (Reads.nil _ _) (Reads.nil _ _)).mono ?_
  rintro e w2 ⟨rfl, rfl⟩
  rw [show (([] : List UInt8) == []) = true from rfl]
  go_wp2
  go_ret
  exact ⟨rfl, ⟨M, N, ms, HB.out, .inl rfl, .inl rfl⟩, KA.out.mono (by simp)⟩
set_option maxHeartbeats 4000000 in
theorem answered_read {F B W M R C V N : Nat} {s : FS} {ms : List UInt8} (w : World) (h : Both w F B W M R C V N s ms) (d a n : Int) (b cap : Nat) (l : List UInt8) (hb : Aside w F B W R C V b cap l) (hd : 0 ≤ d ∧ d ≤ 255) (h6 : d % 6 = 5) (hdn : s.down = false) (hh : s.has a n) :
    Calls Try.prog 14 #[.pointer (some ⟨F, 0, none⟩), .pointer (some ⟨R, 0, none⟩), .agg (opCells d a n b l.length cap)] w (Answered w F B W R C V M N s) := by
  have HDN := Lib.hid hdn
  have HPL := Lib.hid (FS.part_length s a n hh)
  clear hdn
  have hlt := h.f.lt
  have hlr := h.r.lt
  obtain ⟨W0, hW0⟩ : ∃ W0, W0 = w.alloc (.cells (opCells d a n b l.length cap) 33) := ⟨_, rfl⟩
  have kA : Keeps [] w W0 := by rw [hW0]; exact Keeps.alloc [] _ _
  have o1 : W0.cell? ⟨w.heap.size, 1, none⟩ = some (.int .i64 a) := by rw [hW0, cell_alloc_new]; rfl
  have o3 : W0.cell? ⟨w.heap.size, 3, none⟩ = some (.slice (some ⟨b, 0, none⟩) l.length cap) := by rw [hW0, cell_alloc_new]; rfl
  have o0 : W0.cell? ⟨w.heap.size, 0, none⟩ = some (.int .u8 d) := by rw [hW0, cell_alloc_new]; rfl
  have HW := Lib.hid hW0
  have HB := Lib.hid (h.keeps kA (by simp))
  have HA := Lib.hid (hb.keeps kA (by simp))
  have KA := Lib.hid kA
  have H := Lib.hid h
  have hbl := hb.len
  have HF := Lib.hid h.aF
  have HBB := Lib.hid h.aB
  clear kA hb h hW0
  have o2 : W0.cell? ⟨w.heap.size, 2, none⟩ = some (.int .i64 n) := by rw [HW.out, cell_alloc_new]; rfl
  go_enter Try.func14, Try.ntmps14
  go_wp2_with fail
  rw [← HW.out]
  refine (Read_ok _ HB.out.f a n HDN.out hh).mono ?_
  rintro e w2 ⟨b1, c1, rfl, g1, r1, k1⟩
  have R1 := Lib.hid r1
  have K1 := Lib.hid k1
  have HB2 := Lib.hid (HB.out.keeps k1 (by simp))
  have p1 := k1.cell o1 (by simp)
  have p2 := k1.cell o2 (by simp)
  clear r1 k1 o0 o1 o2 o3
  go_wp2_with fail
  refine (RRead_int _ HB2.out.r a n HDN.out hh).mono ?_
  rintro e w3 ⟨b2, c2, rfl, g2, r2, k2⟩
  have R2 := Lib.hid r2
  have K2 := Lib.hid k2
  clear r2 k2
  go_wp2_with fail
  refine (Is_any _ _ _ (s.part a n) (s.part a n) b1 b2 (((R1.out.keeps K2.out (by simp)).readsLen HPL.out)) (R2.out.readsLen HPL.out)).mono ?_
  rintro e w' ⟨rfl, rfl⟩
  rw [show (s.part a n == s.part a n) = true from beq_self_eq_true _]
  go_wp2
  go_ret
  exact ⟨rfl, ⟨M, N, ms, HB2.out.keeps K2.out (by simp), .inl rfl, .inl rfl⟩, ((KA.out.trans K1.out).trans K2.out).mono (by simp)⟩
/-- The state behind an operation. -/
def FS.op (s : FS) (d a : Int) (l : List UInt8) : FS :=
  if d % 6 = 0 ∨ d % 6 = 1 then (s.program a l).1
  else if d % 6 = 2 then (s.erase a).1
  else if d % 6 = 3 then (if s.down = false ∧ 0 ≤ a then s.arm a l else s)
  else if d % 6 = 4 then s.up
  else s

theorem answered_any {F B W M R C V N : Nat} {s : FS} {ms : List UInt8} (w : World) (h : Both w F B W M R C V N s ms) (d a n : Int) (b cap : Nat) (l : List UInt8) (hb : Aside w F B W R C V b cap l) (hd : 0 ≤ d ∧ d ≤ 255) (ha : a ≤ 9223372036854775807) (hn : n ≤ 9223372036854775807) (hw : ∀ x ∈ s.wear, 0 ≤ x ∧ x < 9223372036854775807) :
    Calls Try.prog 14 #[.pointer (some ⟨F, 0, none⟩), .pointer (some ⟨R, 0, none⟩), .agg (opCells d a n b l.length cap)] w (Answered w F B W R C V M N (s.op d a l)) := by
  have h6 : d % 6 = 0 ∨ d % 6 = 1 ∨ d % 6 = 2 ∨ d % 6 = 3 ∨ d % 6 = 4 ∨ d % 6 = 5 := by omega
  unfold FS.op
  by_cases c01 : d % 6 = 0 ∨ d % 6 = 1
  · rw [if_pos c01]; exact answered_program w h d a n b cap l hb hd c01
  · rw [if_neg c01]
    by_cases c2 : d % 6 = 2
    · rw [if_pos c2]; exact answered_erase w h d a n b cap l hb hd c2 hw
    · rw [if_neg c2]
      by_cases c3 : d % 6 = 3
      · rw [if_pos c3]
        by_cases hc : s.down = false ∧ 0 ≤ a
        · rw [if_pos hc]; exact answered_arm w h d a n b cap l hb hd c3 hc.1 ⟨hc.2, ha⟩
        · rw [if_neg hc]
          refine answered_arm_no w h d a n b cap l hb hd c3 _ rfl ?_
          cases hdn : s.down
          · have : a < 0 := by
              by_cases h0 : 0 ≤ a
              · exact absurd ⟨hdn, h0⟩ hc
              · omega
            simp [this]
          · simp
      · rw [if_neg c3]
        by_cases c4 : d % 6 = 4
        · rw [if_pos c4]; exact answered_up w h d a n b cap l hb hd c4
        · rw [if_neg c4]
          have c5 : d % 6 = 5 := by omega
          by_cases hc : s.down = false ∧ s.has a n
          · exact answered_read w h d a n b cap l hb hd c5 hc.1 hc.2
          · refine answered_read_no w h d a n b cap l hb hd c5 hn _ rfl ?_
            cases hdn : s.down
            · have : ¬ s.has a n := fun hh => hc ⟨hdn, hh⟩
              simp [this]
            · simp
end Go.Proofs.Ytpcgckppdnlccaa
