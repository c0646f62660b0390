/-
  FlashTells: the program's flash and the document's beside one another; what is answered of an operation.
-/
import Derived.Test.YtpcgckppdnlccaaTellsF
import Derived.Deep.RegionHeld3
namespace Go.Proofs.Ytpcgckppdnlccaa
open Go.RowKit Go.Deep

/-- The program's flash and the document's, apart, in one state. -/
structure Both (w : World) (F B W M R C V N : Nat) (s : FS) (ms : List UInt8) : Prop where
  f : FlashAt w F B W M s
  r : RefAt w R C V N s ms
  aF : F ≠ R ∧ F ≠ C ∧ F ≠ V
  aB : B ≠ R ∧ B ≠ C ∧ B ≠ V
  aW : W ≠ R ∧ W ≠ C ∧ W ≠ V
  aM : M ≠ R ∧ M ≠ C ∧ M ≠ V
  aN : N ≠ F ∧ N ≠ B ∧ N ≠ W

theorem Both.keeps {S : List Nat} {w w' : World} {F B W M R C V N : Nat} {s : FS} {ms : List UInt8} (h : Both w F B W M R C V N s ms) (hk : Keeps S w w') (hS : ∀ x ∈ S, x ≠ F ∧ x ≠ B ∧ x ≠ W ∧ x ≠ M ∧ x ≠ R ∧ x ≠ C ∧ x ≠ V ∧ x ≠ N) : Both w' F B W M R C V N s ms :=
  { h with
    f := h.f.keeps hk (fun g => (hS _ g).1 rfl) (fun g => (hS _ g).2.1 rfl) (fun g => (hS _ g).2.2.1 rfl) (fun g => (hS _ g).2.2.2.1 rfl)
    r := h.r.keeps hk (fun g => (hS _ g).2.2.2.2.1 rfl) (fun g => (hS _ g).2.2.2.2.2.1 rfl) (fun g => (hS _ g).2.2.2.2.2.2.1 rfl) (fun g => (hS _ g).2.2.2.2.2.2.2 rfl) }

/-- What is left of an operation: both in the state s'. -/
def Answered (w : World) (F B W R C V M N : Nat) (s' : FS) (e : Ending) (w' : World) : Prop :=
  e = .returned (.bool true) ∧ (∃ M' N' ms, Both w' F B W M' R C V N' s' ms ∧ (M' = M ∨ w.heap.size ≤ M') ∧ (N' = N ∨ w.heap.size ≤ N')) ∧ Keeps [F, B, W, R, C, V] w w'

/-- The bytes of an operation lie apart. -/
structure Aside (w : World) (F B W R C V b cap : Nat) (l : List UInt8) : Prop where
  row : Row w b 5 (l.map bv) cap
  len : l.length ≤ 600
  nF : b ≠ F ∧ b ≠ B ∧ b ≠ W
  nR : b ≠ R ∧ b ≠ C ∧ b ≠ V

theorem Aside.keeps {S : List Nat} {w w' : World} {F B W R C V b cap : Nat} {l : List UInt8} (h : Aside w F B W R C V b cap l) (hk : Keeps S w w') (hS : b ∉ S) : Aside w' F B W R C V b cap l :=
  { h with row := h.row.keeps hk hS }

abbrev opCells (d a n : Int) (b len cap : Nat) : Array Value := #[.int .u8 d, .int .i64 a, .int .i64 n, .slice (some ⟨b, 0, none⟩) len cap]

set_option maxHeartbeats 4000000 in
theorem answered_program {F B W M R C V N : Nat} {s : FS} {ms : List UInt8} (w : World) (h : Both w F B W M R C V N s ms) (d a n : Int) (b cap : Nat) (l : List UInt8) (hb : Aside w F B W R C V b cap l) (hd : 0 ≤ d ∧ d ≤ 255) (h6 : d % 6 = 0 ∨ d % 6 = 1) :
    Calls Try.prog 14 #[.pointer (some ⟨F, 0, none⟩), .pointer (some ⟨R, 0, none⟩), .agg (opCells d a n b l.length cap)] w (Answered w F B W R C V M N (s.program a l).1) := by
  have hlt := h.f.lt
  have hlr := h.r.lt
  obtain ⟨W0, hW0⟩ : ∃ W0, W0 = w.alloc (.cells (opCells d a n b l.length cap) 33) := ⟨_, rfl⟩
  have kA : Keeps [] w W0 := by rw [hW0]; exact Keeps.alloc [] _ _
  have o1 : W0.cell? ⟨w.heap.size, 1, none⟩ = some (.int .i64 a) := by rw [hW0, cell_alloc_new]; rfl
  have o3 : W0.cell? ⟨w.heap.size, 3, none⟩ = some (.slice (some ⟨b, 0, none⟩) l.length cap) := by rw [hW0, cell_alloc_new]; rfl
  have o0 : W0.cell? ⟨w.heap.size, 0, none⟩ = some (.int .u8 d) := by rw [hW0, cell_alloc_new]; rfl
  have HW := Lib.hid hW0
  have HB := Lib.hid (h.keeps kA (by simp))
  have HA := Lib.hid (hb.keeps kA (by simp))
  have KA := Lib.hid kA
  have H := Lib.hid h
  have hbl := hb.len
  have HF := Lib.hid h.aF
  have HBB := Lib.hid h.aB
  clear kA hb h hW0
  rcases h6 with h6 | h6
  all_goals
    go_enter Try.func14, Try.ntmps14
    go_wp2
    rw [← HW.out]
    have s0 : Keeps [F, B, R, C] W0 W0 ∧ W0.cell? ⟨w.heap.size, 1, none⟩ = some (.int .i64 a) ∧ W0.cell? ⟨w.heap.size, 3, none⟩ = some (.slice (some ⟨b, 0, none⟩) l.length cap) := ⟨Keeps.refl _ _, o1, o3⟩
    have s1 : Keeps [F, B, R, C] W0 W0.drew ∧ W0.drew.cell? ⟨w.heap.size, 1, none⟩ = some (.int .i64 a) ∧ W0.drew.cell? ⟨w.heap.size, 3, none⟩ = some (.slice (some ⟨b, 0, none⟩) l.length cap) := ⟨Keeps.drew _ _, o1, o3⟩
    have S0 := Lib.hid s0
    have S1 := Lib.hid s1
    clear s0 s1
    go_region_held3 (fun w' => Keeps [F, B, R, C] W0 w' ∧ w'.cell? ⟨w.heap.size, 1, none⟩ = some (.int .i64 a) ∧ w'.cell? ⟨w.heap.size, 3, none⟩ = some (.slice (some ⟨b, 0, none⟩) l.length cap)) (first | exact S0.out | exact S1.out | exact S2.out | exact S3.out) (first
      | (go_at_call 26; refine (Program_yes W0.drew (HB.out.f.keeps (Keeps.drew [] _) (by simp) (by simp) (by simp) (by simp)) a _ l b ((HA.out.row.reads).keeps (Keeps.drew [] _) (by simp)) ⟨HA.out.nF.1, HA.out.nF.2.1⟩ (by omega)).mono ?_; rintro e w2 ⟨rfl, hf2, kk⟩; have S2 := Lib.hid (show Keeps [F, B, R, C] W0 w2 ∧ w2.cell? ⟨w.heap.size, 1, none⟩ = some (.int .i64 a) ∧ w2.cell? ⟨w.heap.size, 3, none⟩ = some (.slice (some ⟨b, 0, none⟩) l.length cap) from ⟨(Keeps.drew _ _).trans (kk.mono (by simp)), kk.cell o1 (by simp; omega), kk.cell o3 (by simp; omega)⟩); have HF2 := Lib.hid hf2; have K2 := Lib.hid ((Keeps.drew [F, B] W0).trans kk); clear hf2 kk)
      | (go_at_call 33; refine (RProgram_any w2 (HB.out.r.keeps K2.out (by have := HF.out; have := HBB.out; simp; omega) (by have := HF.out; have := HBB.out; simp; omega) (by have := HF.out; have := HBB.out; simp; omega) (by have := HB.out.aN; simp; omega)) a _ l b ((HA.out.row.reads).keeps K2.out (by have := HA.out.nF; simp; omega)) ⟨HA.out.nR.1, HA.out.nR.2.1⟩ (by omega)).mono ?_; rintro e w3 ⟨rfl, hr3, kk⟩; have S3 := Lib.hid (show Keeps [F, B, R, C] W0 w3 ∧ w3.cell? ⟨w.heap.size, 1, none⟩ = some (.int .i64 a) ∧ w3.cell? ⟨w.heap.size, 3, none⟩ = some (.slice (some ⟨b, 0, none⟩) l.length cap) from ⟨S2.out.1.trans (kk.mono (by simp)), kk.cell S2.out.2.1 (by simp; omega), kk.cell S2.out.2.2 (by simp; omega)⟩); have HR3 := Lib.hid hr3; have HF3 := Lib.hid (HF2.out.keeps kk (by have := HF.out; simp; omega) (by have := HBB.out; simp; omega) (by have := HB.out.aW; simp; omega) (by have := HB.out.aM; simp; omega)); clear hr3 kk))
    go_wp2
    go_ret
    exact ⟨rfl, ⟨M, N, ms, { HB.out with f := HF3.out, r := HR3.out }, .inl rfl, .inl rfl⟩, (KA.out.mono (by simp)).trans (S3.out.1.mono (by simp))⟩
end Go.Proofs.Ytpcgckppdnlccaa
