/-
  Contracts: Program, Erase.
-/
import Derived.Test.YtdcfcljgennipaaFlashH
import Derived.Laws.EntriesVeiled
namespace Go.Proofs.Ytdcfcljgennipaa
open Go.RowKit

/-- Programming bytes, by definition. -/
def FS.program (s : FS) (a : Int) (b : List UInt8) : FS × Int :=
  if s.mayProgram a b.length ≠ 0 ∨ b = [] then (s, s.mayProgram a b.length) else s.let a.toNat b.length (gClear b)

set_option maxRecDepth 100000 in
set_option maxHeartbeats 400000 in
theorem Program_not (p : Option Addr) (w : World) (h : NotMade w p) (a : Int) (ao : Option Addr) (n cap : Nat) :
    Calls Try.prog 43 #[.pointer p, .int .i64 a, .slice ao n cap] w fun e w' => e = .returned (.int .i64 1) ∧ Keeps [] w w' := by
  have h2 : NotMade (w.alloc (.cells #[.slice ao n cap] 22)) p := by
    rcases h with rfl | ⟨F, rfl, hc⟩
    · exact .inl rfl
    · exact .inr ⟨F, rfl, (Keeps.alloc [] w _).cell hc (by simp)⟩
  have H2 := Lib.hid h2
  clear h2
  go_enter Try.func43, Try.ntmps43
  go_wp2_with (go_at_call 74; refine (mayProgram_not _ _ H2.out _ _).mono ?_; rintro e w' ⟨rfl, rfl⟩)
  go_ret
  exact ⟨rfl, Keeps.alloc _ _ _⟩

set_option maxRecDepth 100000 in
set_option maxHeartbeats 400000 in
theorem Program_no {F B W M : Nat} {s : FS} (w : World) (hF : FlashAt w F B W M s) (a : Int) (ao : Option Addr) (n cap : Nat) (hn : n ≤ 9223372036854775807) (e : Int) (he : s.mayProgram a n = e) (h0 : e ≠ 0) :
    Calls Try.prog 43 #[.pointer (some ⟨F, 0, none⟩), .int .i64 a, .slice ao n cap] w fun e' w' => e' = .returned (.int .i64 e) ∧ Keeps [] w w' := by
  have hF2 := hF.keeps (Keeps.alloc [] w (.cells #[.slice ao n cap] 22)) (by simp) (by simp) (by simp) (by simp)
  have HF := Lib.hid hF2
  have hb : (e != 0) = true := by simpa using h0
  have He := Lib.hid he
  have hnn : (n : Int) ≤ 9223372036854775807 := by omega
  clear hF2 he h0
  go_enter Try.func43, Try.ntmps43
  go_wp2_with (go_at_call 74; refine (mayProgram_yes _ HF.out _ _ hnn).mono ?_; rintro e' w' ⟨rfl, rfl⟩; rw [He.out])
  go_ret
  exact ⟨rfl, Keeps.alloc _ _ _⟩

set_option maxRecDepth 100000 in
set_option maxHeartbeats 400000 in
theorem Program_none {F B W M : Nat} {s : FS} (w : World) (hF : FlashAt w F B W M s) (a : Int) (ao : Option Addr) (cap : Nat) (he : s.mayProgram a 0 = 0) :
    Calls Try.prog 43 #[.pointer (some ⟨F, 0, none⟩), .int .i64 a, .slice ao 0 cap] w fun e' w' => e' = .returned (.int .i64 0) ∧ Keeps [] w w' := by
  have hF2 := hF.keeps (Keeps.alloc [] w (.cells #[.slice ao 0 cap] 22)) (by simp) (by simp) (by simp) (by simp)
  have HF := Lib.hid hF2
  have He := Lib.hid he
  clear hF2 he
  go_enter Try.func43, Try.ntmps43
  go_wp2_with (go_at_call 74; refine (mayProgram_yes _ HF.out _ _ (by omega)).mono ?_; rintro e' w' ⟨rfl, rfl⟩; rw [He.out])
  go_ret
  exact ⟨rfl, Keeps.alloc _ _ _⟩

theorem slice_bytes (b len cap lo hi : Nat) (x : Int) (hx : x = hi) (h1 : lo ≤ hi) (h2 : hi ≤ cap) (h3 : lo < cap) (w : World) :
    (Instr.slice 22 (.slice (some ⟨b, 0, none⟩) len cap) (some (.int .i64 lo)) (some (.int .i64 x)) none).run Try.prog w = .ok (.slice (some ⟨b, lo, none⟩) (hi - lo) (cap - lo)) w := by
  subst hx
  rw [run_slice_lh w 22 _ len cap underBytes .i64 .i64 lo hi (by omega) (by omega) (by omega)]
  rw [elemBytes, sizeByte]
  simp only [Result.andThen, sliced, Int.toNat_natCast]
  rw [if_neg (by omega)]
  simp only [Option.map_some, Nat.mul_one, Addr.add_off, Nat.zero_add]

theorem FS.mayProgram_zero {s : FS} {a n : Int} (h : s.mayProgram a n = 0) : s.down = false ∧ s.has a n := by
  unfold FS.mayProgram at h
  split at h
  · cases h
  · split at h
    · cases h
    · rename_i h1 h2
      exact ⟨by simpa using h1, Decidable.not_not.1 h2⟩

set_option maxRecDepth 100000 in
set_option maxHeartbeats 1000000 in
theorem Program_some {F B W M : Nat} {s : FS} (w : World) (hF : FlashAt w F B W M s) (A : Nat) (Mb offb n cap : Nat) (b : List UInt8) (hb : b.length = n) (hn0 : 0 < n) (he : s.mayProgram A n = 0)
    (hc : ∀ i c, b[i]? = some c → w.cell? ⟨Mb, offb + i, none⟩ = some (bv c)) (hM : Mb ≠ F ∧ Mb ≠ B) :
    Calls Try.prog 43 #[.pointer (some ⟨F, 0, none⟩), .int .i64 A, .slice (some ⟨Mb, offb, none⟩) n cap] w
      fun e' w' => e' = .returned (.int .i64 (s.let A n (gClear b)).2) ∧ FlashAt w' F B W M (s.let A n (gClear b)).1 ∧ Keeps [F, B] w w' := by
  have hF2 := hF.keeps (Keeps.alloc [] w (.cells #[.slice (some ⟨Mb, offb, none⟩) n cap] 22)) (by simp) (by simp) (by simp) (by simp)
  obtain ⟨cb, cw, mv, c0, c1, c2, c3, c4, c5, c6, cf, rB, rW, rM⟩ := hF2.cells
  obtain ⟨_, h0, h1, h2⟩ := FS.mayProgram_zero he
  have hlen := hF.len
  have hfew := hF.few
  have hbs : s.bs.length ≤ 65536 := by omega
  have room := rB.room
  rw [List.length_map] at room
  have hlt := hF.lt
  have hbx : w.heap.size ≠ B ∧ w.heap.size ≠ F := by omega
  have hcx : ∀ i c, b[i]? = some c → (w.alloc (.cells #[.slice (some ⟨Mb, offb, none⟩) n cap] 22)).cell? ⟨Mb, offb + i, none⟩ = some (bv c) := fun i c h => (Keeps.alloc [] w _).cell (hc i c h) (by simp)
  have hxx : (w.alloc (.cells #[.slice (some ⟨Mb, offb, none⟩) n cap] 22)).cell? ⟨w.heap.size, 0, none⟩ = some (.slice (some ⟨Mb, offb, none⟩) n cap) := by rw [cell_alloc_new]; rfl
  have HF := Lib.hid hF2
  have He := Lib.hid he
  have Hb := Lib.hid hb
  have Hcx := Lib.hid hcx
  have hnz : ((n : Int) == 0) = false := by simp; omega
  have hwr : IntKind.i64.wrap ((A : Int) + n) = (A : Int) + n := IntWalk.i64_in _ (by omega)
  have hsl := slice_bytes B s.bs.length cb A (A + n) ((A : Int) + n) (by omega) (by omega) (by omega) (by omega)
  rw [Nat.add_sub_cancel_left] at hsl
  clear hF2 he cf hlen hb hc hcx
  go_enter Try.func43, Try.ntmps43
  go_wp2_with (go_at_call 74; refine (mayProgram_yes _ HF.out _ _ (by omega)).mono ?_; rintro e' w' ⟨rfl, rfl⟩; rw [He.out])
  refine wp_region_tail 14 (by kernel_rfl) (by kernel_rfl) ?_
  intro w2 hw2
  have K2 : Keeps [] (w.alloc (.cells #[.slice (some ⟨Mb, offb, none⟩) n cap] 22)) w2 := by rw [hw2]; exact Keeps.drew _ _
  have d1 := K2.cell c1 (by simp)
  have dx := K2.cell hxx (by simp)
  have HK2 := Lib.hid K2
  clear hw2 K2 c0 c1 c2 c3 c4 c5 c6 hxx
  simp only [List.take_succ_cons, List.take_zero, List.drop_succ_cons, List.drop_zero]
  repeat still_step
  refine wpStill_nil ?_
  clear hsl hwr
  have hF3 := HF.out.keeps HK2.out (by simp) (by simp) (by simp) (by simp)
  have fin : ∀ (e' : Ending) (w' : World), (e' = .returned (.int .i64 (s.let A n (gClear b)).2) ∧ FlashAt w' F B W M (s.let A n (gClear b)).1 ∧ Keeps [F, B] w2 w') → Keeps [F, B] w w' := fun _ _ h => (((Keeps.alloc [] w _).trans HK2.out).mono (by simp)).trans h.2.2
  have HFin := Lib.hid fin
  clear fin
  by_cases har : s.armed = true ∧ s.left = 0
  · have HA := Lib.hid har
    clear har
    go_wp2_with (go_at_call 76; refine (let_cleared_torn w2 hF3 A n _ w.heap.size Mb offb cap b (by omega) HA.out.1 HA.out.2 Hb.out dx hbx (fun i c h => HK2.out.cell (Hcx.out i c h) (by simp)) ⟨hM.2, hM.1⟩).mono ?_; rintro e' w' ⟨rfl, h3, h4⟩)
    go_ret
    exact ⟨rfl, h3, HFin.out _ _ ⟨rfl, h3, h4⟩⟩
  · have HA := Lib.hid har
    clear har
    go_wp2_with (go_at_call 76; refine (let_cleared_whole w2 hF3 A n _ w.heap.size Mb offb cap b (by omega) HA.out Hb.out dx hbx (fun i c h => HK2.out.cell (Hcx.out i c h) (by simp)) ⟨hM.2, hM.1⟩).mono ?_; rintro e' w' ⟨rfl, h3, h4⟩)
    go_ret
    exact ⟨rfl, h3, HFin.out _ _ ⟨rfl, h3, h4⟩⟩

theorem Program_yes {F B W M : Nat} {s : FS} (w : World) (hF : FlashAt w F B W M s) (a : Int) (v : Value) (b : List UInt8) (Mb : Nat) (hr : Reads w v b Mb) (hM : Mb ≠ F ∧ Mb ≠ B) (hb : b.length ≤ 9223372036854775807) :
    Calls Try.prog 43 #[.pointer (some ⟨F, 0, none⟩), .int .i64 a, v] w
      fun e' w' => e' = .returned (.int .i64 (s.program a b).2) ∧ FlashAt w' F B W M (s.program a b).1 ∧ Keeps [F, B] w w' := by
  obtain ⟨ao, cap, rfl⟩ : ∃ ao cap, v = .slice ao b.length cap := by
    rcases hr with ⟨rfl, rfl⟩ | ⟨ad, cap, rfl, _⟩
    · exact ⟨none, 0, rfl⟩
    · exact ⟨_, _, rfl⟩
  by_cases h0 : s.mayProgram a b.length = 0
  · by_cases hnil : b = []
    · subst hnil
      have hp : s.program a [] = (s, 0) := by unfold FS.program; rw [if_pos (.inr rfl), h0]
      rw [hp]
      exact (Program_none w hF a ao cap h0).mono fun _ w' h => ⟨h.1, hF.keeps h.2 (by simp) (by simp) (by simp) (by simp), h.2.mono (by simp)⟩
    · have hp : s.program a b = s.let a.toNat b.length (gClear b) := by unfold FS.program; rw [if_neg (by simp [h0, hnil])]
      rw [hp]
      obtain ⟨off, cap', hv, _, hc⟩ := hr.at hnil
      obtain ⟨_, ha, _, _⟩ := FS.mayProgram_zero h0
      obtain ⟨A, rfl⟩ := Int.eq_ofNat_of_zero_le ha
      rw [hv]
      exact Program_some w hF A Mb off b.length cap' b rfl (by cases b with | nil => exact absurd rfl hnil | cons _ _ => simp) h0 hc hM
  · have hp : s.program a b = (s, s.mayProgram a b.length) := by unfold FS.program; rw [if_pos (.inl h0)]
    rw [hp]
    exact (Program_no w hF a ao b.length cap hb _ rfl h0).mono fun _ w' h => ⟨h.1, hF.keeps h.2 (by simp) (by simp) (by simp) (by simp), h.2.mono (by simp)⟩

/-- Erasing a sector, by definition. -/
def FS.erase (s : FS) (a : Int) : FS × Int :=
  if s.mayErase a ≠ 0 then (s, s.mayErase a) else { s with wear := s.wear.set a.toNat (s.wear.getD a.toNat 0 + 1) }.let (a.toNat * 256) 256 gSet

theorem FS.mayErase_zero {s : FS} {a : Int} (h : s.mayErase a = 0) : s.down = false ∧ 0 ≤ a ∧ a < s.wear.length := by
  unfold FS.mayErase at h
  split at h
  · cases h
  · split at h
    · cases h
    · rename_i h1 h2
      exact ⟨by simpa using h1, Decidable.not_not.1 h2⟩

set_option maxRecDepth 100000 in
set_option maxHeartbeats 400000 in
theorem Erase_not (p : Option Addr) (w : World) (h : NotMade w p) (a : Int) :
    Calls Try.prog 61 #[.pointer p, .int .i64 a] w fun e w' => e = .returned (.int .i64 1) ∧ w = w' := by
  go_enter Try.func61, Try.ntmps61
  go_wp2_with (go_at_call 88; refine (mayErase_not _ _ h _).mono ?_; rintro e w' ⟨rfl, rfl⟩)
  go_ret
  exact ⟨rfl, rfl⟩

set_option maxRecDepth 100000 in
set_option maxHeartbeats 400000 in
theorem Erase_no {F B W M : Nat} {s : FS} (w : World) (hF : FlashAt w F B W M s) (a : Int) (e : Int) (he : s.mayErase a = e) (h0 : e ≠ 0) :
    Calls Try.prog 61 #[.pointer (some ⟨F, 0, none⟩), .int .i64 a] w fun e' w' => e' = .returned (.int .i64 e) ∧ w = w' := by
  have hb : (e != 0) = true := by simpa using h0
  have He := Lib.hid he
  clear he h0
  go_enter Try.func61, Try.ntmps61
  go_wp2_with (go_at_call 88; refine (mayErase_yes _ hF _).mono ?_; rintro e' w' ⟨rfl, rfl⟩; rw [He.out])
  go_ret
  exact ⟨rfl, rfl⟩

theorem FlashAt.worn {w : World} {F B W M : Nat} {s : FS} (h : FlashAt w F B W M s) (A : Nat) (x : Int) :
    FlashAt (w.setCell ⟨W, A, none⟩ (.int .i64 x)) F B W M { s with wear := s.wear.set A x } ∧ Keeps [W] w (w.setCell ⟨W, A, none⟩ (.int .i64 x)) := by
  obtain ⟨cb, cw, mv, f, b, c, m⟩ := h.here
  have k : Keeps [W] w (w.setCell ⟨W, A, none⟩ (.int .i64 x)) := Keeps.setCell w (by simp) _
  refine ⟨{ h with len := by simpa using h.len, few := by simpa using h.few, here := ⟨cb, cw, mv, ?_, b.keeps k (by simpa using h.nBW), ?_, m.keeps k (by simpa using h.nM.2.2)⟩ }, k⟩
  · simpa using k.obj f (by simpa using h.nFW)
  · have := c.set A (.int .i64 x)
    rw [List.map_set]
    exact this

set_option maxRecDepth 100000 in
set_option maxHeartbeats 1000000 in
theorem Erase_some {F B W M : Nat} {s : FS} (w : World) (hF : FlashAt w F B W M s) (A : Nat) (x : Int) (he : s.mayErase A = 0) (hx : s.wear[A]? = some x) (x0 : 0 ≤ x) (x1 : x < 9223372036854775807) :
    Calls Try.prog 61 #[.pointer (some ⟨F, 0, none⟩), .int .i64 A] w
      fun e' w' => e' = .returned (.int .i64 ({ s with wear := s.wear.set A (x + 1) }.let (A * 256) 256 gSet).2) ∧ FlashAt w' F B W M ({ s with wear := s.wear.set A (x + 1) }.let (A * 256) 256 gSet).1 ∧ Keeps [F, B, W] w w' := by
  obtain ⟨cb, cw, mv, c0, c1, c2, c3, c4, c5, c6, cf, rB, rW, rM⟩ := hF.cells
  obtain ⟨hd0, h0, h1⟩ := FS.mayErase_zero he
  clear hd0
  have hlen := hF.len
  have hfew := hF.few
  have cx : w.cell? ⟨W, A, none⟩ = some (.int .i64 x) := rW.cell A (by simp [hx])
  have fx := rW.frozen A
  obtain ⟨hW1, hK1⟩ := hF.worn A (x + 1)
  have room := rB.room
  rw [List.length_map] at room
  have hs256 : A * 256 + 256 ≤ s.bs.length := by omega
  have He := Lib.hid he
  have HW1 := Lib.hid hW1
  have HK1 := Lib.hid hK1
  have nFW : ¬ F = W := hF.nFW
  have nWF : ¬ W = F := Ne.symm hF.nFW
  clear he hx cf hlen hW1 hK1
  go_enter Try.func61, Try.ntmps61
  go_wp2_with (first | (go_at_call 88; refine (mayErase_yes _ hF _).mono ?_; rintro e' w' ⟨rfl, rfl⟩; rw [He.out]) | fail)
  have hF3 := HW1.out
  by_cases har : s.armed = true ∧ s.left = 0
  · have HA := Lib.hid har
    clear har
    refine (let_set_torn _ hF3 (A * 256) 256 _ hs256 HA.out.1 HA.out.2).mono ?_
    rintro e' w' ⟨rfl, h3, h4⟩
    have H3 := Lib.hid h3
    clear hF3 h3
    go_wp2
    go_ret
    exact ⟨rfl, H3.out, (HK1.out.mono (by simp)).trans (h4.mono (by simp))⟩
  · have HA := Lib.hid har
    clear har
    refine (let_set_whole _ hF3 (A * 256) 256 _ hs256 HA.out).mono ?_
    rintro e' w' ⟨rfl, h3, h4⟩
    have H3 := Lib.hid h3
    clear hF3 h3
    go_wp2
    go_ret
    exact ⟨rfl, H3.out, (HK1.out.mono (by simp)).trans (h4.mono (by simp))⟩

theorem Erase_yes {F B W M : Nat} {s : FS} (w : World) (hF : FlashAt w F B W M s) (a : Int) (hw : ∀ x ∈ s.wear, 0 ≤ x ∧ x < 9223372036854775807) :
    Calls Try.prog 61 #[.pointer (some ⟨F, 0, none⟩), .int .i64 a] w
      fun e' w' => e' = .returned (.int .i64 (s.erase a).2) ∧ FlashAt w' F B W M (s.erase a).1 ∧ Keeps [F, B, W] w w' := by
  by_cases h0 : s.mayErase a = 0
  · have hp : s.erase a = { s with wear := s.wear.set a.toNat (s.wear.getD a.toNat 0 + 1) }.let (a.toNat * 256) 256 gSet := by unfold FS.erase; rw [if_neg (by simp [h0])]
    rw [hp]
    obtain ⟨_, ha, hlt⟩ := FS.mayErase_zero h0
    obtain ⟨A, rfl⟩ := Int.eq_ofNat_of_zero_le ha
    have hx : s.wear[A]? = some (s.wear.getD A 0) := by simp [List.getD, List.getElem?_eq_getElem (show A < s.wear.length by omega)]
    obtain ⟨x0, x1⟩ := hw _ (List.mem_of_getElem? hx)
    exact Erase_some w hF A _ h0 hx x0 x1
  · have hp : s.erase a = (s, s.mayErase a) := by unfold FS.erase; rw [if_pos h0]
    rw [hp]
    exact (Erase_no w hF a _ rfl h0).mono fun _ w' h => ⟨h.1, h.2 ▸ hF, h.2 ▸ Keeps.refl _ _⟩
end Go.Proofs.Ytdcfcljgennipaa
