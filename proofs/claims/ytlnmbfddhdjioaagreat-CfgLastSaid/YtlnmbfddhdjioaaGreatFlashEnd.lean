/-
  Contracts: Program, Erase.
  Contracts: bits.Mul at 1, bytes.Repeat of one byte, New.
  Contracts: own, New, Copy.
  Contracts: lightshiplaw01's stands and awake (the chapter's examples).
-/
import Derived.Test.YtlnmbfddhdjioaaGreatFlashH
import Derived.Laws.EntriesVeiled
import Derived.Lib.MakeNoZero
import Derived.Laws.CopyOwn
import Derived.Laws.BitsAllLaws
import Derived.Deep.RegionLaw
import Derived.Deep.OwnRows
import Derived.Test.YtlnmbfddhdjioaaGreatGround
namespace Go.Proofs.YtlnmbfddhdjioaaGreat
open Go.RowKit

/-- Programming bytes, by definition. -/
def FS.program (s : FS) (a : Int) (b : List UInt8) : FS × Int :=
  if s.mayProgram a b.length ≠ 0 ∨ b = [] then (s, s.mayProgram a b.length) else s.let a.toNat b.length (gClear b)

set_option maxRecDepth 100000 in
set_option maxHeartbeats 400000 in
theorem Program_not (p : Option Addr) (w : World) (h : NotMade w p) (a : Int) (ao : Option Addr) (n cap : Nat) :
    Calls Tryz.prog 78 #[.pointer p, .int .i64 a, .slice ao n cap] w fun e w' => e = .returned (.int .i64 1) ∧ Keeps [] w w' := by
  have h2 : NotMade (w.alloc (.cells #[.slice ao n cap] 23)) p := by
    rcases h with rfl | ⟨F, rfl, hc⟩
    · exact .inl rfl
    · exact .inr ⟨F, rfl, (Keeps.alloc [] w _).cell hc (by simp)⟩
  have H2 := Lib.hid h2
  clear h2
  go_enter Tryz.func78, Tryz.ntmps78
  go_wp2_with (go_at_call 101; refine (mayProgram_not _ _ H2.out _ _).mono ?_; rintro e w' ⟨rfl, rfl⟩)
  go_ret
  exact ⟨rfl, Keeps.alloc _ _ _⟩

set_option maxRecDepth 100000 in
set_option maxHeartbeats 400000 in
theorem Program_no {F B W M : Nat} {s : FS} (w : World) (hF : FlashAt w F B W M s) (a : Int) (ao : Option Addr) (n cap : Nat) (hn : n ≤ 9223372036854775807) (e : Int) (he : s.mayProgram a n = e) (h0 : e ≠ 0) :
    Calls Tryz.prog 78 #[.pointer (some ⟨F, 0, none⟩), .int .i64 a, .slice ao n cap] w fun e' w' => e' = .returned (.int .i64 e) ∧ Keeps [] w w' := by
  have hF2 := hF.keeps (Keeps.alloc [] w (.cells #[.slice ao n cap] 23)) (by simp) (by simp) (by simp) (by simp)
  have HF := Lib.hid hF2
  have hb : (e != 0) = true := by simpa using h0
  have He := Lib.hid he
  have hnn : (n : Int) ≤ 9223372036854775807 := by omega
  clear hF2 he h0
  go_enter Tryz.func78, Tryz.ntmps78
  go_wp2_with (go_at_call 101; refine (mayProgram_yes _ HF.out _ _ hnn).mono ?_; rintro e' w' ⟨rfl, rfl⟩; rw [He.out])
  go_ret
  exact ⟨rfl, Keeps.alloc _ _ _⟩

set_option maxRecDepth 100000 in
set_option maxHeartbeats 400000 in
theorem Program_none {F B W M : Nat} {s : FS} (w : World) (hF : FlashAt w F B W M s) (a : Int) (ao : Option Addr) (cap : Nat) (he : s.mayProgram a 0 = 0) :
    Calls Tryz.prog 78 #[.pointer (some ⟨F, 0, none⟩), .int .i64 a, .slice ao 0 cap] w fun e' w' => e' = .returned (.int .i64 0) ∧ Keeps [] w w' := by
  have hF2 := hF.keeps (Keeps.alloc [] w (.cells #[.slice ao 0 cap] 23)) (by simp) (by simp) (by simp) (by simp)
  have HF := Lib.hid hF2
  have He := Lib.hid he
  clear hF2 he
  go_enter Tryz.func78, Tryz.ntmps78
  go_wp2_with (go_at_call 101; refine (mayProgram_yes _ HF.out _ _ (by omega)).mono ?_; rintro e' w' ⟨rfl, rfl⟩; rw [He.out])
  go_ret
  exact ⟨rfl, Keeps.alloc _ _ _⟩

theorem slice_bytes (b len cap lo hi : Nat) (x : Int) (hx : x = hi) (h1 : lo ≤ hi) (h2 : hi ≤ cap) (h3 : lo < cap) (w : World) :
    (Instr.slice 23 (.slice (some ⟨b, 0, none⟩) len cap) (some (.int .i64 lo)) (some (.int .i64 x)) none).run Tryz.prog w = .ok (.slice (some ⟨b, lo, none⟩) (hi - lo) (cap - lo)) w := by
  subst hx
  rw [run_slice_lh w 23 _ len cap underBytes .i64 .i64 lo hi (by omega) (by omega) (by omega)]
  rw [elemBytes, sizeByte]
  simp only [Result.andThen, sliced, Int.toNat_natCast]
  rw [if_neg (by omega)]
  simp only [Option.map_some, Nat.mul_one, Addr.add_off, Nat.zero_add]

theorem FS.mayProgram_zero {s : FS} {a n : Int} (h : s.mayProgram a n = 0) : s.down = false ∧ s.has a n := by
  unfold FS.mayProgram at h
  split at h
  · cases h
  · split at h
    · cases h
    · rename_i h1 h2
      exact ⟨by simpa using h1, Decidable.not_not.1 h2⟩

set_option maxRecDepth 100000 in
set_option maxHeartbeats 1000000 in
theorem Program_some {F B W M : Nat} {s : FS} (w : World) (hF : FlashAt w F B W M s) (A : Nat) (Mb offb n cap : Nat) (b : List UInt8) (hb : b.length = n) (hn0 : 0 < n) (he : s.mayProgram A n = 0)
    (hc : ∀ i c, b[i]? = some c → w.cell? ⟨Mb, offb + i, none⟩ = some (bv c)) (hM : Mb ≠ F ∧ Mb ≠ B) :
    Calls Tryz.prog 78 #[.pointer (some ⟨F, 0, none⟩), .int .i64 A, .slice (some ⟨Mb, offb, none⟩) n cap] w
      fun e' w' => e' = .returned (.int .i64 (s.let A n (gClear b)).2) ∧ FlashAt w' F B W M (s.let A n (gClear b)).1 ∧ Keeps [F, B] w w' := by
  have hF2 := hF.keeps (Keeps.alloc [] w (.cells #[.slice (some ⟨Mb, offb, none⟩) n cap] 23)) (by simp) (by simp) (by simp) (by simp)
  obtain ⟨cb, cw, mv, c0, c1, c2, c3, c4, c5, c6, cf, rB, rW, rM⟩ := hF2.cells
  obtain ⟨_, h0, h1, h2⟩ := FS.mayProgram_zero he
  have hlen := hF.len
  have hfew := hF.few
  have hbs : s.bs.length ≤ 65536 := by omega
  have room := rB.room
  rw [List.length_map] at room
  have hlt := hF.lt
  have hbx : w.heap.size ≠ B ∧ w.heap.size ≠ F := by omega
  have hcx : ∀ i c, b[i]? = some c → (w.alloc (.cells #[.slice (some ⟨Mb, offb, none⟩) n cap] 23)).cell? ⟨Mb, offb + i, none⟩ = some (bv c) := fun i c h => (Keeps.alloc [] w _).cell (hc i c h) (by simp)
  have hxx : (w.alloc (.cells #[.slice (some ⟨Mb, offb, none⟩) n cap] 23)).cell? ⟨w.heap.size, 0, none⟩ = some (.slice (some ⟨Mb, offb, none⟩) n cap) := by rw [cell_alloc_new]; rfl
  have HF := Lib.hid hF2
  have He := Lib.hid he
  have Hb := Lib.hid hb
  have Hcx := Lib.hid hcx
  have hnz : ((n : Int) == 0) = false := by simp; omega
  have hwr : IntKind.i64.wrap ((A : Int) + n) = (A : Int) + n := IntWalk.i64_in _ (by omega)
  have hsl := slice_bytes B s.bs.length cb A (A + n) ((A : Int) + n) (by omega) (by omega) (by omega) (by omega)
  rw [Nat.add_sub_cancel_left] at hsl
  clear hF2 he cf hlen hb hc hcx
  go_enter Tryz.func78, Tryz.ntmps78
  go_wp2_with (go_at_call 101; refine (mayProgram_yes _ HF.out _ _ (by omega)).mono ?_; rintro e' w' ⟨rfl, rfl⟩; rw [He.out])
  refine wp_region_tail 14 (by kernel_rfl) (by kernel_rfl) ?_
  intro w2 hw2
  have K2 : Keeps [] (w.alloc (.cells #[.slice (some ⟨Mb, offb, none⟩) n cap] 23)) w2 := by rw [hw2]; exact Keeps.drew _ _
  have d1 := K2.cell c1 (by simp)
  have dx := K2.cell hxx (by simp)
  have HK2 := Lib.hid K2
  clear hw2 K2 c0 c1 c2 c3 c4 c5 c6 hxx
  simp only [List.take_succ_cons, List.take_zero, List.drop_succ_cons, List.drop_zero]
  repeat still_step
  refine wpStill_nil ?_
  clear hsl hwr
  have hF3 := HF.out.keeps HK2.out (by simp) (by simp) (by simp) (by simp)
  have fin : ∀ (e' : Ending) (w' : World), (e' = .returned (.int .i64 (s.let A n (gClear b)).2) ∧ FlashAt w' F B W M (s.let A n (gClear b)).1 ∧ Keeps [F, B] w2 w') → Keeps [F, B] w w' := fun _ _ h => (((Keeps.alloc [] w _).trans HK2.out).mono (by simp)).trans h.2.2
  have HFin := Lib.hid fin
  clear fin
  by_cases har : s.armed = true ∧ s.left = 0
  · have HA := Lib.hid har
    clear har
    go_wp2_with (go_at_call 74; refine (let_cleared_torn w2 hF3 A n _ w.heap.size Mb offb cap b (by omega) HA.out.1 HA.out.2 Hb.out dx hbx (fun i c h => HK2.out.cell (Hcx.out i c h) (by simp)) ⟨hM.2, hM.1⟩).mono ?_; rintro e' w' ⟨rfl, h3, h4⟩)
    go_ret
    exact ⟨rfl, h3, HFin.out _ _ ⟨rfl, h3, h4⟩⟩
  · have HA := Lib.hid har
    clear har
    go_wp2_with (go_at_call 74; refine (let_cleared_whole w2 hF3 A n _ w.heap.size Mb offb cap b (by omega) HA.out Hb.out dx hbx (fun i c h => HK2.out.cell (Hcx.out i c h) (by simp)) ⟨hM.2, hM.1⟩).mono ?_; rintro e' w' ⟨rfl, h3, h4⟩)
    go_ret
    exact ⟨rfl, h3, HFin.out _ _ ⟨rfl, h3, h4⟩⟩

theorem Program_yes {F B W M : Nat} {s : FS} (w : World) (hF : FlashAt w F B W M s) (a : Int) (v : Value) (b : List UInt8) (Mb : Nat) (hr : Reads w v b Mb) (hM : Mb ≠ F ∧ Mb ≠ B) (hb : b.length ≤ 9223372036854775807) :
    Calls Tryz.prog 78 #[.pointer (some ⟨F, 0, none⟩), .int .i64 a, v] w
      fun e' w' => e' = .returned (.int .i64 (s.program a b).2) ∧ FlashAt w' F B W M (s.program a b).1 ∧ Keeps [F, B] w w' := by
  obtain ⟨ao, cap, rfl⟩ : ∃ ao cap, v = .slice ao b.length cap := by
    rcases hr with ⟨rfl, rfl⟩ | ⟨ad, cap, rfl, _⟩
    · exact ⟨none, 0, rfl⟩
    · exact ⟨_, _, rfl⟩
  by_cases h0 : s.mayProgram a b.length = 0
  · by_cases hnil : b = []
    · subst hnil
      have hp : s.program a [] = (s, 0) := by unfold FS.program; rw [if_pos (.inr rfl), h0]
      rw [hp]
      exact (Program_none w hF a ao cap h0).mono fun _ w' h => ⟨h.1, hF.keeps h.2 (by simp) (by simp) (by simp) (by simp), h.2.mono (by simp)⟩
    · have hp : s.program a b = s.let a.toNat b.length (gClear b) := by unfold FS.program; rw [if_neg (by simp [h0, hnil])]
      rw [hp]
      obtain ⟨off, cap', hv, _, hc⟩ := hr.at hnil
      obtain ⟨_, ha, _, _⟩ := FS.mayProgram_zero h0
      obtain ⟨A, rfl⟩ := Int.eq_ofNat_of_zero_le ha
      rw [hv]
      exact Program_some w hF A Mb off b.length cap' b rfl (by cases b with | nil => exact absurd rfl hnil | cons _ _ => simp) h0 hc hM
  · have hp : s.program a b = (s, s.mayProgram a b.length) := by unfold FS.program; rw [if_pos (.inl h0)]
    rw [hp]
    exact (Program_no w hF a ao b.length cap hb _ rfl h0).mono fun _ w' h => ⟨h.1, hF.keeps h.2 (by simp) (by simp) (by simp) (by simp), h.2.mono (by simp)⟩

/-- Erasing a sector, by definition. -/
def FS.erase (s : FS) (a : Int) : FS × Int :=
  if s.mayErase a ≠ 0 then (s, s.mayErase a) else { s with wear := s.wear.set a.toNat (s.wear.getD a.toNat 0 + 1) }.let (a.toNat * 256) 256 gSet

theorem FS.mayErase_zero {s : FS} {a : Int} (h : s.mayErase a = 0) : s.down = false ∧ 0 ≤ a ∧ a < s.wear.length := by
  unfold FS.mayErase at h
  split at h
  · cases h
  · split at h
    · cases h
    · rename_i h1 h2
      exact ⟨by simpa using h1, Decidable.not_not.1 h2⟩

set_option maxRecDepth 100000 in
set_option maxHeartbeats 400000 in
theorem Erase_not (p : Option Addr) (w : World) (h : NotMade w p) (a : Int) :
    Calls Tryz.prog 46 #[.pointer p, .int .i64 a] w fun e w' => e = .returned (.int .i64 1) ∧ w = w' := by
  go_enter Tryz.func46, Tryz.ntmps46
  go_wp2_with (go_at_call 72; refine (mayErase_not _ _ h _).mono ?_; rintro e w' ⟨rfl, rfl⟩)
  go_ret
  exact ⟨rfl, rfl⟩

set_option maxRecDepth 100000 in
set_option maxHeartbeats 400000 in
theorem Erase_no {F B W M : Nat} {s : FS} (w : World) (hF : FlashAt w F B W M s) (a : Int) (e : Int) (he : s.mayErase a = e) (h0 : e ≠ 0) :
    Calls Tryz.prog 46 #[.pointer (some ⟨F, 0, none⟩), .int .i64 a] w fun e' w' => e' = .returned (.int .i64 e) ∧ w = w' := by
  have hb : (e != 0) = true := by simpa using h0
  have He := Lib.hid he
  clear he h0
  go_enter Tryz.func46, Tryz.ntmps46
  go_wp2_with (go_at_call 72; refine (mayErase_yes _ hF _).mono ?_; rintro e' w' ⟨rfl, rfl⟩; rw [He.out])
  go_ret
  exact ⟨rfl, rfl⟩

theorem FlashAt.worn {w : World} {F B W M : Nat} {s : FS} (h : FlashAt w F B W M s) (A : Nat) (x : Int) :
    FlashAt (w.setCell ⟨W, A, none⟩ (.int .i64 x)) F B W M { s with wear := s.wear.set A x } ∧ Keeps [W] w (w.setCell ⟨W, A, none⟩ (.int .i64 x)) := by
  obtain ⟨cb, cw, mv, f, b, c, m⟩ := h.here
  have k : Keeps [W] w (w.setCell ⟨W, A, none⟩ (.int .i64 x)) := Keeps.setCell w (by simp) _
  refine ⟨{ h with len := by simpa using h.len, few := by simpa using h.few, here := ⟨cb, cw, mv, ?_, b.keeps k (by simpa using h.nBW), ?_, m.keeps k (by simpa using h.nM.2.2)⟩ }, k⟩
  · simpa using k.obj f (by simpa using h.nFW)
  · have := c.set A (.int .i64 x)
    rw [List.map_set]
    exact this

set_option maxRecDepth 100000 in
set_option maxHeartbeats 1000000 in
theorem Erase_some {F B W M : Nat} {s : FS} (w : World) (hF : FlashAt w F B W M s) (A : Nat) (x : Int) (he : s.mayErase A = 0) (hx : s.wear[A]? = some x) (x0 : 0 ≤ x) (x1 : x < 9223372036854775807) :
    Calls Tryz.prog 46 #[.pointer (some ⟨F, 0, none⟩), .int .i64 A] w
      fun e' w' => e' = .returned (.int .i64 ({ s with wear := s.wear.set A (x + 1) }.let (A * 256) 256 gSet).2) ∧ FlashAt w' F B W M ({ s with wear := s.wear.set A (x + 1) }.let (A * 256) 256 gSet).1 ∧ Keeps [F, B, W] w w' := by
  obtain ⟨cb, cw, mv, c0, c1, c2, c3, c4, c5, c6, cf, rB, rW, rM⟩ := hF.cells
  obtain ⟨hd0, h0, h1⟩ := FS.mayErase_zero he
  clear hd0
  have hlen := hF.len
  have hfew := hF.few
  have cx : w.cell? ⟨W, A, none⟩ = some (.int .i64 x) := rW.cell A (by simp [hx])
  have fx := rW.frozen A
  obtain ⟨hW1, hK1⟩ := hF.worn A (x + 1)
  have room := rB.room
  rw [List.length_map] at room
  have hs256 : A * 256 + 256 ≤ s.bs.length := by omega
  have He := Lib.hid he
  have HW1 := Lib.hid hW1
  have HK1 := Lib.hid hK1
  have nFW : ¬ F = W := hF.nFW
  have nWF : ¬ W = F := Ne.symm hF.nFW
  clear he hx cf hlen hW1 hK1
  go_enter Tryz.func46, Tryz.ntmps46
  go_wp2_with (first | (go_at_call 72; refine (mayErase_yes _ hF _).mono ?_; rintro e' w' ⟨rfl, rfl⟩; rw [He.out]) | fail)
  have hF3 := HW1.out
  by_cases har : s.armed = true ∧ s.left = 0
  · have HA := Lib.hid har
    clear har
    refine (let_set_torn _ hF3 (A * 256) 256 _ hs256 HA.out.1 HA.out.2).mono ?_
    rintro e' w' ⟨rfl, h3, h4⟩
    have H3 := Lib.hid h3
    clear hF3 h3
    go_wp2
    go_ret
    exact ⟨rfl, H3.out, (HK1.out.mono (by simp)).trans (h4.mono (by simp))⟩
  · have HA := Lib.hid har
    clear har
    refine (let_set_whole _ hF3 (A * 256) 256 _ hs256 HA.out).mono ?_
    rintro e' w' ⟨rfl, h3, h4⟩
    have H3 := Lib.hid h3
    clear hF3 h3
    go_wp2
    go_ret
    exact ⟨rfl, H3.out, (HK1.out.mono (by simp)).trans (h4.mono (by simp))⟩

theorem Erase_yes {F B W M : Nat} {s : FS} (w : World) (hF : FlashAt w F B W M s) (a : Int) (hw : ∀ x ∈ s.wear, 0 ≤ x ∧ x < 9223372036854775807) :
    Calls Tryz.prog 46 #[.pointer (some ⟨F, 0, none⟩), .int .i64 a] w
      fun e' w' => e' = .returned (.int .i64 (s.erase a).2) ∧ FlashAt w' F B W M (s.erase a).1 ∧ Keeps [F, B, W] w w' := by
  by_cases h0 : s.mayErase a = 0
  · have hp : s.erase a = { s with wear := s.wear.set a.toNat (s.wear.getD a.toNat 0 + 1) }.let (a.toNat * 256) 256 gSet := by unfold FS.erase; rw [if_neg (by simp [h0])]
    rw [hp]
    obtain ⟨_, ha, hlt⟩ := FS.mayErase_zero h0
    obtain ⟨A, rfl⟩ := Int.eq_ofNat_of_zero_le ha
    have hx : s.wear[A]? = some (s.wear.getD A 0) := by simp [List.getD, List.getElem?_eq_getElem (show A < s.wear.length by omega)]
    obtain ⟨x0, x1⟩ := hw _ (List.mem_of_getElem? hx)
    exact Erase_some w hF A _ h0 hx x0 x1
  · have hp : s.erase a = (s, s.mayErase a) := by unfold FS.erase; rw [if_pos h0]
    rw [hp]
    exact (Erase_no w hF a _ rfl h0).mono fun _ w' h => ⟨h.1, h.2 ▸ hF, h.2 ▸ Keeps.refl _ _⟩
end Go.Proofs.YtlnmbfddhdjioaaGreat

namespace Go.Proofs.YtlnmbfddhdjioaaGreat
open Go.RowKit

set_option maxRecDepth 100000 in
set_option maxHeartbeats 1000000 in
theorem Mul64_one (w : World) (c : Nat) (hc : c ≤ 65536) :
    Calls Tryz.prog 92 #[.int .u64 1, .int .u64 c] w fun e w' => e = .returned (.tuple #[.int .u64 0, .int .u64 c]) ∧ w = w' := by
  have h1 : bits .and .u64 1 4294967295 = 1 := by decide
  have h0 : bits .and .u64 0 4294967295 = 0 := by decide
  have h2 : bits .and .u64 (c : Int) 4294967295 = (c : Int) := by
    have := u64_and_nat c 4294967295 (by omega) (by omega)
    rw [show ((4294967295 : Nat) : Int) = 4294967295 from rfl] at this
    rw [this, show (4294967295 : Nat) = 2 ^ 32 - 1 from rfl, Nat.and_two_pow_sub_one_eq_mod, Nat.mod_eq_of_lt (by omega)]
  have h3 : (c : Int) / 4294967296 = 0 := by omega
  go_enter Tryz.func92, Tryz.ntmps92
  go_wp2
  go_ret2
  exact ⟨rfl, rfl⟩

set_option maxRecDepth 100000 in
set_option maxHeartbeats 1000000 in
theorem Mul_one (w : World) (c : Nat) (hc : c ≤ 65536) :
    Calls Tryz.prog 67 #[.int .u64 1, .int .u64 c] w fun e w' => e = .returned (.tuple #[.int .u64 0, .int .u64 c]) ∧ w = w' := by
  go_enter Tryz.func67, Tryz.ntmps67
  go_wp2_with (go_at_call 92; refine (Mul64_one _ c hc).mono ?_; rintro e w' ⟨rfl, rfl⟩)
  go_ret2
  exact ⟨rfl, rfl⟩

theorem callMakeNoZero (w : World) (n : Nat) (hn : n ≤ 65536) :
    ∃ cs : Array Value, (callFunc 68 #[.int .i64 (n : Int)]).run Tryz.prog w = .ok (.value (.slice (some ⟨w.heap.size, 0, none⟩) n cs.size)) ((w.alloc (.cells cs 5)).drewN 2) ∧ n ≤ cs.size := by
  obtain ⟨cs, hrunM, hle, _⟩ := Lib.run_makeNoZero (P := Tryz.prog) w #[3] 23 5 Tryz.underlying23 n (by omega)
  refine ⟨cs, ?_, hle⟩
  rw [run_callFunc_extern Tryz.func68 (by kernel_rfl) (by kernel_rfl) (by kernel_rfl) (e := Extern.BytealgMakeNoZero.makeNoZero #[3] #[23]) (by kernel_rfl), hrunM]
  rfl

theorem slice_from (b n lo : Nat) (h : lo < n) (w : World) :
    (Instr.slice 23 (.slice (some ⟨b, 0, none⟩) n n) (some (.int .i64 lo)) none none).run Tryz.prog w = .ok (.slice (some ⟨b, lo, none⟩) (n - lo) (n - lo)) w := by
  rw [run_slice_l w 23 _ n n underBytes .i64 lo (by omega) (by omega)]
  rw [elemBytes, sizeByte]
  simp only [Result.andThen, sliced, Int.toNat_natCast]
  rw [if_neg (by omega)]
  simp only [Option.map_some, Nat.mul_one, Addr.add_off, Nat.zero_add]

theorem slice_to (ad : Addr) (n cap hi : Nat) (h : hi ≤ cap) (w : World) :
    (Instr.slice 23 (.slice (some ad) n cap) none (some (.int .i64 hi)) none).run Tryz.prog w = .ok (.slice (some ad) hi cap) w := by
  rw [run_slice_h w 23 _ n cap underBytes .i64 hi (by omega) (by omega)]
  rw [elemBytes, sizeByte]
  simp [Result.andThen, sliced, Addr.add]

theorem take_splice {α : Type} (L : List α) (off : Nat) (cs : List α) (h : off + cs.length ≤ L.length) : (splice L off cs).take (off + cs.length) = L.take off ++ cs := by
  unfold splice
  rw [List.take_append, List.take_take, List.length_take, Nat.min_eq_right (by omega), Nat.min_eq_left (by omega), List.take_append]
  simp

theorem Row.copied {w : World} {b : Nat} {T : TypeId} {xs : List Value} {cap : Nat} {cur cs : List Value} (hx : cur.take xs.length = xs) (hr : xs.length + cs.length ≤ cap) (hm : cap ≤ cur.length)
    (hg : w.heap[b]? = some (.cells (splice cur xs.length cs).toArray T (0, 0))) : Row w b T (xs ++ cs) cap := by
  refine ⟨by simpa using hr, _, hg, by simp [length_splice _ _ _ (show xs.length + cs.length ≤ cur.length by omega)]; omega, ?_⟩
  rw [List.length_append]
  show (splice cur xs.length cs).take _ = _
  rw [take_splice _ _ _ (by omega), hx]

theorem replicate_more (n m : Nat) (c : UInt8) : (List.replicate n c).map bv ++ List.replicate m (bv c) = (List.replicate (n + m) c).map bv := by
  rw [List.map_replicate, List.map_replicate, List.replicate_append_replicate]

theorem copy_hpos (w : World) (M off : Nat) (cs : Array Value) (c : UInt8) (hc : w.cell? ⟨M, off, none⟩ = some (bv c)) :
    0 < [bv c].length → some (⟨w.heap.size, 0, none⟩ : Addr) = some ⟨w.heap.size, 0, none⟩ ∧ ∃ ad : Addr, some (⟨M, off, none⟩ : Addr) = some ad ∧ ∀ j v, [bv c][j]? = some v → ((w.alloc (.cells cs 5)).drewN 2).cell? (ad.add j) = some v := by
  intro _
  refine ⟨rfl, _, rfl, fun j v hv => ?_⟩
  rw [Addr.add_off]
  match j, hv with
  | 0, hv =>
    simp at hv
    subst hv
    exact (Keeps.alloc [] w _).cell hc (by simp)

theorem rep_hpos (w : World) (R bp m n : Nat) (T : TypeId) (c : UInt8) (hR : Row w R T ((List.replicate bp c).map bv) n) (hm : m ≤ bp) :
    0 < (List.replicate m (bv c)).length → some (⟨R, bp, none⟩ : Addr) = some ⟨R, bp, none⟩ ∧ ∃ ad : Addr, some (⟨R, 0, none⟩ : Addr) = some ad ∧ ∀ j v, (List.replicate m (bv c))[j]? = some v → w.cell? (ad.add j) = some v := by
  intro _
  refine ⟨rfl, _, rfl, fun j v hv => ?_⟩
  rw [Addr.add_off, Nat.zero_add]
  have hj : j < m := by
    have := (List.getElem?_eq_some_iff.1 hv).1
    simpa using this
  have hv' : bv c = v := by
    rw [List.getElem?_replicate, if_pos hj] at hv
    exact Option.some.inj hv
  subst hv'
  exact hR.cell j (by rw [List.map_replicate, List.getElem?_replicate, if_pos (by omega)])

theorem one_rep (m : Nat) (c : UInt8) : ∀ v ∈ List.replicate m (bv c), v.oneCell' = true := by
  intro v hv; rw [List.eq_of_mem_replicate hv]; rfl

set_option maxRecDepth 100000 in
set_option maxHeartbeats 1000000 in
theorem Repeat_one (w : World) (M off cap n : Nat) (c : UInt8) (hc : w.cell? ⟨M, off, none⟩ = some (bv c)) (hn0 : 0 < n) (hn : n ≤ 8192) :
    Calls Tryz.prog 37 #[.slice (some ⟨M, off, none⟩) 1 cap, .int .i64 n] w fun e w' => ∃ b, e = .returned (.slice (some ⟨b, 0, none⟩) n n) ∧ w.heap.size ≤ b ∧ Row w' b 5 ((List.replicate n c).map bv) n ∧ Keeps [] w w' := by
  have hnz : ((n : Int) == 0) = false := by simp; omega
  obtain ⟨cs, hmk, hle⟩ := callMakeNoZero w n (by omega)
  have hle' : (n : Int) ≤ cs.size := by omega
  have hg : ((w.alloc (.cells cs 5)).drewN 2).heap[w.heap.size]? = some (.cells cs.toList.toArray 5 (0, 0)) := heap_alloc_new w _
  have hbel : Below w.heap.size w ((w.alloc (.cells cs 5)).drewN 2) := ⟨rfl, rfl, rfl, by simp [World.drewN], fun k hk => Below.heap_alloc _ _ _ hk⟩
  have hn1 : [bv c].length = Nat.min 1 n := by simp [Nat.min_def]; omega
  have hf1 : 0 + [bv c].length ≤ cs.toList.length := by simp; omega
  have h11 : ∀ v ∈ [bv c], v.oneCell' = true := fun v hv => by simp at hv; subst hv; rfl
  have HG := Lib.hid hg
  have HB := Lib.hid hbel
  have HN := Lib.hid hn1
  clear hg hbel hn1
  go_enter Tryz.func37, Tryz.ntmps37
  go_wp2_with (first | (go_at_call 67; refine (Mul_one _ n (by omega)).mono ?_; rintro e w' ⟨rfl, rfl⟩) | (with_reducible refine wpList_copy_splice (o := ⟨some 60, _, _, _, _, _⟩) rfl (.tmp 58) (.tmp 59) 23 23 rfl 5 Tryz.underlying23 szByte (some ⟨w.heap.size, 0, none⟩) (some ⟨M, off, none⟩) n n 1 cap rfl rfl w.heap.size 0 cs.toList 5 HG.out [bv c] HN.out (copy_hpos w M off cs c hc) hf1 h11 w.heap.size w HB.out (Nat.le_refl _) ?_; intro w1 HG1 hB1; have R1 : Row w1 w.heap.size 5 ((List.replicate 1 c).map bv) n := Row.copied (xs := []) (cs := [bv c]) rfl (by simp; omega) (by simpa using hle) HG1.out; clear HG1; have HR1 := Lib.hid R1; clear R1) | fail)
  go_loopw [10] (fun s10 wr => ∃ bp : Nat, 1 ≤ bp ∧ bp ≤ n ∧ s10 = .int .i64 bp ∧ Row wr w.heap.size 5 ((List.replicate bp c).map bv) n ∧ Below w.heap.size w wr) (fun s10 _ => n - (intOf s10).toNat)
  case atStart => exact ⟨1, Nat.le_refl _, hn0, rfl, HR1.out, hB1⟩
  case round =>
    obtain ⟨bp, h1, h2, rfl, hR, hBe⟩ := hrel
    by_cases hlt : bp < n
    · have hlt' : (bp : Int) < n := by omega
      have HRb := Lib.hid hR
      have HBe := Lib.hid hBe
      have hsl := slice_from w.heap.size n bp hlt
      obtain ⟨cur, hg, hsz, htk⟩ := hR.there
      have HG2 := Lib.hid (show wr.drew.heap[w.heap.size]? = some (.cells cur.toList.toArray 5 (0, 0)) from hg)
      have HB2 := Lib.hid (hBe.drew)
      have HR2 := Lib.hid (show Row wr.drew w.heap.size 5 ((List.replicate bp c).map bv) n from hR.keeps (Keeps.drew [] _) (by simp))
      have HT := Lib.hid htk
      have hcl : n ≤ cur.toList.length := by simpa using hsz
      have hsl2 := slice_to ⟨w.heap.size, 0, none⟩ n n bp (by omega)
      obtain ⟨m, hm⟩ : ∃ m, Nat.min bp (n - bp) = m := ⟨_, rfl⟩
      have hm1 : m ≤ bp := hm ▸ Nat.min_le_left _ _
      have hm2 : m ≤ n - bp := hm ▸ Nat.min_le_right _ _
      have hm3 : 1 ≤ m := by have : Nat.min bp (n - bp) = min bp (n - bp) := rfl; omega
      have HFIT := Lib.hid (show bp + (List.replicate m (bv c)).length ≤ cur.toList.length by rw [List.length_replicate]; omega)
      have HLEN := Lib.hid (show (List.replicate m (bv c)).length = Nat.min bp (n - bp) by rw [List.length_replicate, hm])
      have hwr : IntKind.i64.wrap ((bp : Int) + m) = (bp : Int) + m := IntWalk.i64_in _ (by omega)
      clear hR hBe hmk hg hsz htk hm
      go_wp2
      go_region_law (refine step_copy_splice rfl (.tmp 70) (.tmp 73) 23 23 rfl 5 Tryz.underlying23 szByte (some ⟨w.heap.size, bp, none⟩) (some ⟨w.heap.size, 0, none⟩) (n - bp) (n - bp) bp n (by go_simp) (by go_simp) w.heap.size bp cur.toList 5 HG2.out (List.replicate m (bv c)) HLEN.out (rep_hpos _ _ _ _ _ _ _ HR2.out hm1) HFIT.out (one_rep _ _) w.heap.size w HB2.out (Nat.le_refl _) ?_; intro w3 HG3 hB3)
      have hR3 : Row w3 w.heap.size 5 ((List.replicate bp c).map bv ++ List.replicate m (bv c)) n := Row.copied (by rw [List.length_map, List.length_replicate]; have := HT.out; simpa using this) (by rw [List.length_map, List.length_replicate, List.length_replicate]; omega) (by have := HFIT.out; omega) (by have := HG3.out; simpa using this)
      rw [replicate_more] at hR3
      have HR3 := Lib.hid hR3
      clear hR3 HG3 hwr
      simp only [Act.put, List.getElem_toArray, List.getElem_cons_succ, List.getElem_cons_zero, List.setIfInBounds_toArray, List.set_cons_succ, List.set_cons_zero]
      go_wp2
      go_roundw
      case rel => exact ⟨bp + m, by omega, by omega, by go_num, HR3.out, hB3⟩
      case measure => simp [intOf]; omega
    · obtain rfl : bp = n := by omega
      have HRb := Lib.hid hR
      clear hR hmk
      go_wp2
      go_ret
      exact ⟨w.heap.size, rfl, Nat.le_refl _, HRb.out, Keeps.ofBelow hBe⟩
end Go.Proofs.YtlnmbfddhdjioaaGreat

namespace Go.Proofs.YtlnmbfddhdjioaaGreat
open Go.RowKit Go.Deep

set_option maxRecDepth 100000 in
set_option maxHeartbeats 400000 in
theorem own_any (w : World) (F : Nat) (v : Value) (h0 : w.cell? ⟨F, 0, none⟩ = some v) (f0 : w.frozen? ⟨F, 0, none⟩ = false) :
    Calls Tryz.prog 38 #[.pointer (some ⟨F, 0, none⟩)] w fun e w' => e = .returned (.pointer (some ⟨F, 0, none⟩)) ∧ w.setCell ⟨F, 0, none⟩ (.pointer (some ⟨F, 0, none⟩)) = w' := by
  go_enter Tryz.func38, Tryz.ntmps38
  go_wp2
  go_ret
  exact ⟨rfl, rfl⟩

theorem made_list (z : Value) (n : Nat) : (madeCells #[z] n).toList = List.replicate n z := by
  refine List.ext_getElem? fun i => ?_
  simp only [madeCells, Array.toList_map, Array.toList_range, List.getElem?_map, List.getElem?_replicate]
  by_cases h : i < n
  · simp [h, Nat.mod_one]
  · simp [h]

theorem Row.made (w : World) (z : Value) (n : Nat) (T : TypeId) : Row (w.alloc (.cells (madeCells #[z] n) T)) w.heap.size T (List.replicate n z) n :=
  ⟨by simp, _, heap_alloc_new w _, by rw [size_madeCells]; exact Nat.le_refl _, by rw [List.length_replicate, made_list, List.take_of_length_le (by simp)]⟩

theorem FlashAt.fresh (w : World) (B W M : Nat) (s : FS) (cb cw : Nat) (hB : Row w B 5 (s.bs.map bv) cb) (hW : Row w W 3 (s.wear.map (Value.int .i64)) cw) (hBW : B ≠ W)
    (len : s.bs.length = 256 * s.wear.length) (few : s.wear.length ≤ 256) (hd : s.down = false) (ha : s.armed = false) (hl : s.left = 0) (hm : s.mask = []) (hM : w.heap.size < M) :
    FlashAt ((w.alloc (.cells #[.pointer none, .slice (some ⟨B, 0, none⟩) s.bs.length cb, .slice (some ⟨W, 0, none⟩) s.wear.length cw, .bool false, .bool false, .int .i64 0, .slice none 0 0] 91)).setCell ⟨w.heap.size, 0, none⟩ (.pointer (some ⟨w.heap.size, 0, none⟩))) w.heap.size B W M s ∧
    Keeps [] w ((w.alloc (.cells #[.pointer none, .slice (some ⟨B, 0, none⟩) s.bs.length cb, .slice (some ⟨W, 0, none⟩) s.wear.length cw, .bool false, .bool false, .int .i64 0, .slice none 0 0] 91)).setCell ⟨w.heap.size, 0, none⟩ (.pointer (some ⟨w.heap.size, 0, none⟩))) := by
  have k : Keeps [] w ((w.alloc (.cells #[.pointer none, .slice (some ⟨B, 0, none⟩) s.bs.length cb, .slice (some ⟨W, 0, none⟩) s.wear.length cw, .bool false, .bool false, .int .i64 0, .slice none 0 0] 91)).setCell ⟨w.heap.size, 0, none⟩ (.pointer (some ⟨w.heap.size, 0, none⟩))) :=
    (Keeps.alloc [] w _).then (Keeps.setCell (S := [w.heap.size]) _ (by simp) _) (fun x hx => .inr (by simp at hx; omega))
  have lB := hB.lt
  have lW := hW.lt
  refine ⟨{ nFB := by omega, nFW := by omega, nBW := hBW, nM := ⟨by omega, by omega, by omega⟩, len := len, few := few, left0 := by omega, left1 := by omega, maskl := by simp [hm], here := ⟨cb, cw, .slice none 0 0, ?_, hB.keeps k (by simp), hW.keeps k (by simp), by rw [hm]; exact Reads.nil _ _⟩ }, k⟩
  rw [hd, ha, hl]
  have h1 := heap_setCell_at (w.alloc (.cells #[.pointer none, .slice (some ⟨B, 0, none⟩) s.bs.length cb, .slice (some ⟨W, 0, none⟩) s.wear.length cw, .bool false, .bool false, .int .i64 0, .slice none 0 0] 91)) w.heap.size 0 (.pointer (some ⟨w.heap.size, 0, none⟩)) _ _ _ (heap_alloc_new w _)
  simpa using h1

def FS.new (n : Nat) : FS := { bs := List.replicate (n * 256) 255, wear := List.replicate n 0, down := false, armed := false, left := 0, mask := [] }

set_option maxRecDepth 100000 in
set_option maxHeartbeats 400000 in
theorem New_bad (w : World) (n : Int) (h : n < 8 ∨ 256 < n) :
    Calls Tryz.prog 18 #[.int .i64 n] w fun e w' => e = .returned (.tuple #[.pointer none, .int .i64 2]) ∧ w = w' := by
  by_cases h8 : n < 8
  · go_enter Tryz.func18, Tryz.ntmps18
    go_wp2
    go_ret2
    exact ⟨rfl, rfl⟩
  · have hbig : 256 < n := by omega
    go_enter Tryz.func18, Tryz.ntmps18
    go_wp2
    go_ret2
    exact ⟨rfl, rfl⟩

set_option maxRecDepth 100000 in
set_option maxHeartbeats 1000000 in
theorem New_ok (w : World) (n : Nat) (h8 : 8 ≤ n) (h32 : n ≤ 32) :
    Calls Tryz.prog 18 #[.int .i64 n] w fun e w' => ∃ F B W M, e = .returned (.tuple #[.pointer (some ⟨F, 0, none⟩), .int .i64 0]) ∧ w.heap.size ≤ F ∧ w.heap.size ≤ B ∧ w.heap.size ≤ W ∧ FlashAt w' F B W M (FS.new n) ∧ Keeps [] w w' := by
  have hmk := fun w => run_make_row' (P := Tryz.prog) 87 3 (.int .i64 0) 8 Tryz.underlying87 infoInt rfl .i64 .i64 n (by omega) (by omega) w
  have hcast : ((n : Int) * 256) = ((n * 256 : Nat) : Int) := by omega
  have HC := Lib.hid hcast
  clear hcast
  go_enter Tryz.func18, Tryz.ntmps18
  go_wp2_with fail
  rw [HC.out]
  refine (Repeat_one _ w.heap.size 0 _ (n * 256) 255 (by rw [cell_alloc_new]; rfl) (by omega) (by omega)).mono ?_
  rintro e w1 ⟨b, rfl, hb, hR, hK⟩
  have HR := Lib.hid hR
  have HK := Lib.hid hK
  have hb1 := hR.lt
  clear hR hK
  have hW := Row.made w1 (.int .i64 0) n 3
  have hB := HR.out.keeps (Keeps.alloc [] w1 (.cells (madeCells #[.int .i64 0] n) 3)) (by simp)
  have fr := FlashAt.fresh (w1.alloc (.cells (madeCells #[.int .i64 0] n) 3)) b w1.heap.size ((w1.alloc (.cells (madeCells #[.int .i64 0] n) 3)).heap.size + 1) (FS.new n) (n * 256) n (by simpa [FS.new] using hB) (by simpa [FS.new] using hW) (by omega) (by simp [FS.new]; omega) (by simp [FS.new]; omega) rfl rfl rfl rfl (by omega)
  have hl1 : (FS.new n).bs.length = n * 256 := by simp [FS.new]
  have hl2 : (FS.new n).wear.length = n := by simp [FS.new]
  rw [hl1, hl2] at fr
  have hsz : (w1.alloc (.cells (madeCells #[.int .i64 0] n) 3)).heap.size = w1.heap.size + 1 := by simp
  rw [hsz] at fr
  have FR := Lib.hid fr
  clear fr hW hB hl1 hl2 hsz
  go_wp2_with (go_at_call 38; refine (own_any _ _ (.pointer none) ?_ ?_).mono ?_)
  · rw [show w1.heap.size + 1 = (w1.alloc (.cells (madeCells #[.int .i64 0] n) 3)).heap.size by simp, cell_alloc_new]; rfl
  · rw [show w1.heap.size + 1 = (w1.alloc (.cells (madeCells #[.int .i64 0] n) 3)).heap.size by simp, frozen_alloc_new]
  · rintro e w2 ⟨rfl, rfl⟩
    have hfr := FR.out
    generalize (((w1.alloc (.cells (madeCells #[.int .i64 0] n) 3)).alloc (.cells #[.pointer none, .slice (some ⟨b, 0, none⟩) (n * 256) (n * 256), .slice (some ⟨w1.heap.size, 0, none⟩) n n, .bool false, .bool false, .int .i64 0, .slice none 0 0] 91)).setCell ⟨w1.heap.size + 1, 0, none⟩ (.pointer (some ⟨w1.heap.size + 1, 0, none⟩))) = w2 at *
    have H2 := Lib.hid hfr
    clear hfr FR hmk
    go_wp2
    go_ret2
    have hk := HK.out
    have hs := hk.size
    simp at hs hb
    exact ⟨w1.heap.size + 1, b, w1.heap.size, w1.heap.size + 1 + 1, rfl, by omega, by omega, by omega, H2.out.1, (((Keeps.alloc [] w _).trans hk).trans (Keeps.alloc [] w1 _)).trans H2.out.2⟩
end Go.Proofs.YtlnmbfddhdjioaaGreat

namespace Go.Proofs.YtlnmbfddhdjioaaGreat
open Go.RowKit

theorem Reads.built (w : World) (l : List UInt8) (cs : Array Value) (T : TypeId) (n : Nat) (hcs : cs = (l.map bv).toArray) (hn : n = l.length) :
    Reads (w.alloc (.cells cs T)) (.slice (some ⟨w.heap.size, 0, none⟩) n n) l w.heap.size := by
  subst hn
  refine .inr ⟨⟨w.heap.size, 0, none⟩, l.length, rfl, Nat.le_refl _, fun _ => rfl, fun i c hi => ?_⟩
  rw [Addr.add_off, Nat.zero_add, cell_alloc_new, hcs]
  simp [hi]

theorem Program_lit {F B W M : Nat} {s : FS} (w : World) (hF : FlashAt w F B W M s) (a : Int) (l : List UInt8) (cs : Array Value) (n : Nat) (s' : FS) (r : Int) (hcs : cs = (l.map bv).toArray) (hn : n = l.length) (hl : l.length ≤ 65536) (hp : s.program a l = (s', r)) :
    Calls Tryz.prog 78 #[.pointer (some ⟨F, 0, none⟩), .int .i64 a, .slice (some ⟨w.heap.size, 0, none⟩) n n] (w.alloc (.cells cs 5)) fun e w' => e = .returned (.int .i64 r) ∧ FlashAt w' F B W M s' ∧ Keeps [F, B] w w' := by
  have hk := Keeps.alloc [] w (.cells cs 5)
  have hF2 := hF.keeps hk (by simp) (by simp) (by simp) (by simp)
  have hlt := hF.lt
  have := Program_yes _ hF2 a _ l w.heap.size (Reads.built w l cs 5 n hcs hn) ⟨by omega, by omega⟩ (by omega)
  rw [hp] at this
  exact this.mono fun _ w' h => ⟨h.1, h.2.1, (hk.mono (by simp)).trans h.2.2⟩

theorem Erase_lit {F B W M : Nat} {s : FS} (w : World) (hF : FlashAt w F B W M s) (a : Int) (s' : FS) (r : Int) (hw : ∀ x ∈ s.wear, 0 ≤ x ∧ x < 9223372036854775807) (hp : s.erase a = (s', r)) :
    Calls Tryz.prog 46 #[.pointer (some ⟨F, 0, none⟩), .int .i64 a] w fun e w' => e = .returned (.int .i64 r) ∧ FlashAt w' F B W M s' ∧ Keeps [F, B, W] w w' := by
  have := Erase_yes w hF a hw
  rw [hp] at this
  exact this

theorem part_rep (N a m : Nat) (c : UInt8) (h : a + m ≤ N) : ((List.replicate N c).drop a).take m = List.replicate m c := by
  rw [List.drop_replicate, List.take_replicate, Nat.min_eq_left (by omega)]

theorem part_span_in (bs : List UInt8) (a n a' m : Nat) (g : Nat → UInt8 → UInt8) (h1 : a ≤ a') (h2 : a' + m ≤ a + n) :
    ((span bs a n g).drop a').take m = ((bs.drop a').take m).mapIdx fun i c => g (a' - a + i) c := by
  refine List.ext_getElem? fun i => ?_
  simp only [List.getElem?_take, List.getElem?_drop, span, List.getElem?_mapIdx]
  by_cases hi : i < m
  · simp only [if_pos hi]
    cases h : bs[a' + i]? with
    | none => rfl
    | some c =>
      simp only [Option.map_some]
      rw [if_pos (by omega), show a' + i - a = a' - a + i by omega]
  · simp [hi]

theorem part_span_out (bs : List UInt8) (a n a' m : Nat) (g : Nat → UInt8 → UInt8) (h : a' + m ≤ a ∨ a + n ≤ a') :
    ((span bs a n g).drop a').take m = (bs.drop a').take m := by
  refine List.ext_getElem? fun i => ?_
  simp only [List.getElem?_take, List.getElem?_drop, span, List.getElem?_mapIdx]
  by_cases hi : i < m
  · simp only [if_pos hi]
    cases h : bs[a' + i]? with
    | none => rfl
    | some c =>
      simp only [Option.map_some]
      rw [if_neg (by omega)]
  · simp [hi]

theorem FS.mayProgram_ok {s : FS} {a n : Int} (hd : s.down = false) (hh : s.has a n) (ha : a % 4 = 0) (hn : n % 4 = 0) : s.mayProgram a n = 0 := by
  unfold FS.mayProgram; rw [if_neg (by simp [hd]), if_neg (fun h => h hh), if_neg (by omega)]

theorem FS.mayProgram_align {s : FS} {a n : Int} (hd : s.down = false) (hh : s.has a n) (ha : a % 4 ≠ 0 ∨ n % 4 ≠ 0) : s.mayProgram a n = 11 := by
  unfold FS.mayProgram; rw [if_neg (by simp [hd]), if_neg (fun h => h hh), if_pos ha]

theorem FS.mayProgram_out {s : FS} {a n : Int} (hd : s.down = false) (hh : ¬ s.has a n) : s.mayProgram a n = 10 := by
  unfold FS.mayProgram; rw [if_neg (by simp [hd]), if_pos hh]

theorem FS.program_no {s : FS} {a : Int} {b : List UInt8} {e : Int} (h : s.mayProgram a b.length = e) (he : e ≠ 0) : s.program a b = (s, e) := by
  unfold FS.program; rw [if_pos (.inl (by rw [h]; exact he)), h]

theorem FS.program_let {s : FS} {a : Int} {b : List UInt8} (h : s.mayProgram a b.length = 0) (hb : b ≠ []) : s.program a b = s.let a.toNat b.length (gClear b) := by
  unfold FS.program; rw [if_neg (by simp [h, hb])]

theorem FS.let_whole {s : FS} {a n : Nat} {g : UInt8 → Nat → UInt8 → UInt8} (h : s.armed = false) : s.let a n g = ({ s with bs := span s.bs a n (g 255) }, 0) := by
  unfold FS.let; rw [if_neg (by simp [h])]; simp [h]

theorem FS.let_torn {s : FS} {a n : Nat} {g : UInt8 → Nat → UInt8 → UInt8} (h : s.armed = true) (hl : s.left = 0) :
    s.let a n g = ({ s with bs := span s.bs a n fun i c => g (s.mask.getD i 0) i c, down := true, armed := false, left := 0, mask := [] }, 12) := by
  unfold FS.let; rw [if_pos ⟨h, hl⟩]

theorem FS.erase_let {s : FS} {a : Int} (hd : s.down = false) (h : 0 ≤ a ∧ a < s.wear.length) : s.erase a = { s with wear := s.wear.set a.toNat (s.wear.getD a.toNat 0 + 1) }.let (a.toNat * 256) 256 gSet := by
  have : s.mayErase a = 0 := by unfold FS.mayErase; rw [if_neg (by simp [hd]), if_neg (fun q => q h)]
  unfold FS.erase; rw [if_neg (by simp [this])]

/-- A flash of eight sectors that is new. -/
structure Start (s : FS) : Prop where
  len : s.bs.length = 2048
  all : ∀ a m, a + m ≤ 2048 → (s.bs.drop a).take m = List.replicate m 255
  wear : s.wear = [0, 0, 0, 0, 0, 0, 0, 0]
  down : s.down = false
  armed : s.armed = false

theorem start_new : Start (FS.new 8) :=
  ⟨by unfold FS.new; rw [List.length_replicate], fun a m h => by unfold FS.new; exact part_rep _ a m 255 (by omega), rfl, rfl, rfl⟩

variable (s : FS)
def S1 : FS := { s with bs := span s.bs 4 4 (gClear [15, 15, 15, 15] 255) }
def S2 : FS := { S1 s with bs := span (S1 s).bs 4 4 (gClear [240, 255, 0, 1] 255) }
def S3 : FS := (S2 s).arm 0 [255, 1]
def S4 : FS := { S3 s with bs := span (S3 s).bs 8 4 fun i c => gClear [0, 0, 0, 0] ((S3 s).mask.getD i 0) i c, down := true, armed := false, left := 0, mask := [] }
def S5 : FS := (S4 s).up
def S6 : FS := (S5 s).arm 0 [7]
def S7 : FS := { S6 s with wear := (S6 s).wear.set 0 ((S6 s).wear.getD 0 0 + 1), bs := span (S6 s).bs (0 * 256) 256 fun i c => gSet ((S6 s).mask.getD i 0) i c, down := true, armed := false, left := 0, mask := [] }
def S8 : FS := (S7 s).up
def S9 : FS := { S8 s with wear := (S8 s).wear.set 0 ((S8 s).wear.getD 0 0 + 1), bs := span (S8 s).bs (0 * 256) 256 (gSet 255) }
variable {s : FS} (st : Start s)
include st
theorem l1 : (S1 s).bs.length = 2048 := by show (span _ _ _ _).length = _; rw [span_length, st.len]
theorem l2 : (S2 s).bs.length = 2048 := by show (span _ _ _ _).length = _; rw [span_length, l1 st]
theorem l3 : (S3 s).bs.length = 2048 := l2 st
theorem l4 : (S4 s).bs.length = 2048 := by unfold S4; dsimp only; rw [span_length, l3 st]
theorem l5 : (S5 s).bs.length = 2048 := l4 st
theorem l6 : (S6 s).bs.length = 2048 := l5 st
theorem l7 : (S7 s).bs.length = 2048 := by unfold S7; dsimp only; rw [span_length, l6 st]
theorem l8 : (S8 s).bs.length = 2048 := l7 st
theorem l9 : (S9 s).bs.length = 2048 := by show (span _ _ _ _).length = _; rw [span_length, l8 st]
theorem m3 : (S3 s).mask = [255, 1] := by show ([255, 1] : List UInt8).take (S2 s).bs.length = _; rw [l2 st]; rfl
theorem m6 : (S6 s).mask = [7] := by show ([7] : List UInt8).take (S5 s).bs.length = _; rw [l5 st]; rfl
theorem g6 : (S6 s).wear = [0, 0, 0, 0, 0, 0, 0, 0] := st.wear
theorem g8 : (S8 s).wear = [1, 0, 0, 0, 0, 0, 0, 0] := by show (S6 s).wear.set 0 ((S6 s).wear.getD 0 0 + 1) = _; rw [g6 st]; rfl
theorem g9 : (S9 s).wear = [2, 0, 0, 0, 0, 0, 0, 0] := by show (S8 s).wear.set 0 ((S8 s).wear.getD 0 0 + 1) = _; rw [g8 st]; rfl
theorem d2 : (S2 s).down = false := st.down
theorem e01 : s.program 4 [15, 15, 15, 15] = (S1 s, 0) := by
  rw [FS.program_let (FS.mayProgram_ok st.down (by unfold FS.has; rw [st.len]; decide) (by decide) (by decide)) (by decide), FS.let_whole st.armed]; rfl
theorem e12 : (S1 s).program 4 [240, 255, 0, 1] = (S2 s, 0) := by
  rw [FS.program_let (s := S1 s) (FS.mayProgram_ok st.down (by unfold FS.has; rw [l1 st]; decide) (by decide) (by decide)) (by decide), FS.let_whole (s := S1 s) st.armed]; rfl
theorem e2a : (S2 s).program 2 [0, 0, 0, 0] = (S2 s, 11) := FS.program_no (FS.mayProgram_align st.down (by unfold FS.has; rw [l2 st]; decide) (by decide)) (by decide)
theorem e2b : (S2 s).program 4 [0, 0, 0] = (S2 s, 11) := FS.program_no (FS.mayProgram_align st.down (by unfold FS.has; rw [l2 st]; decide) (by decide)) (by decide)
theorem e2c : (S2 s).program 2048 [0, 0, 0, 0] = (S2 s, 10) := FS.program_no (FS.mayProgram_out st.down (by unfold FS.has; rw [l2 st]; decide)) (by decide)
theorem e34 : (S3 s).program 8 [0, 0, 0, 0] = (S4 s, 12) := by
  rw [FS.program_let (FS.mayProgram_ok rfl (by unfold FS.has; rw [l3 st]; decide) (by decide) (by decide)) (by decide), FS.let_torn rfl rfl]; rfl
theorem e67 : (S6 s).erase 0 = (S7 s, 12) := by
  rw [FS.erase_let rfl (by rw [g6 st]; decide), FS.let_torn rfl rfl]; rfl
theorem e89 : (S8 s).erase 0 = (S9 s, 0) := by
  rw [FS.erase_let rfl (by rw [g8 st]; decide), FS.let_whole rfl]; rfl
theorem q2 (a m : Nat) (h : a + m ≤ 2048) (h8 : 8 ≤ a) : ((S2 s).bs.drop a).take m = List.replicate m 255 := by
  show ((span _ _ _ _).drop a).take m = _
  rw [part_span_out _ _ _ _ _ _ (.inr h8)]
  show ((span _ _ _ _).drop a).take m = _
  rw [part_span_out _ _ _ _ _ _ (.inr h8), st.all a m h]
theorem p0 : (s.part 0 (4 : Nat) == [255, 255, 255, 255]) = true := by
  show ((s.bs.drop 0).take 4 == _) = true
  rw [st.all 0 4 (by decide)]; decide
theorem p2 : ((S2 s).part 4 (4 : Nat) == [0, 15, 0, 1]) = true := by
  show (((span _ _ _ _).drop 4).take 4 == _) = true
  rw [part_span_in _ _ _ _ _ _ (by decide) (by decide)]
  show ((((span _ _ _ _).drop 4).take 4).mapIdx _ == _) = true
  rw [part_span_in _ _ _ _ _ _ (by decide) (by decide), st.all 4 4 (by decide)]; decide
theorem p5 : ((S5 s).part 8 (4 : Nat) == [0, 254, 255, 255]) = true := by
  unfold FS.part S5 FS.up S4
  dsimp only
  show (((span _ _ _ _).drop 8).take 4 == _) = true
  rw [part_span_in _ _ _ _ _ _ (by decide) (by decide), m3 st]
  show ((((S2 s).bs.drop 8).take 4).mapIdx _ == _) = true
  rw [q2 st 8 4 (by decide) (by decide)]; decide
theorem p8 : ((S8 s).part 0 (3 : Nat) == [7, 0, 0]) = true := by
  unfold FS.part S8 FS.up S7
  dsimp only
  show (((span _ _ _ _).drop 0).take 3 == _) = true
  rw [part_span_in _ _ _ _ _ _ (by decide) (by decide), m6 st]
  have h : ∃ x y z, ((S6 s).bs.drop 0).take 3 = [x, y, z] := by
    have : (((S6 s).bs.drop 0).take 3).length = 3 := by simp [l6 st]
    match ((S6 s).bs.drop 0).take 3, this with
    | [x, y, z], _ => exact ⟨x, y, z, rfl⟩
  obtain ⟨x, y, z, h⟩ := h
  rw [h]; rfl
theorem p9 : ((S9 s).part 0 (3 : Nat) == [255, 255, 255]) = true := by
  show (((span _ _ _ _).drop 0).take 3 == _) = true
  rw [part_span_in _ _ _ _ _ _ (by decide) (by decide)]
  have h : ∃ x y z, ((S8 s).bs.drop 0).take 3 = [x, y, z] := by
    have : (((S8 s).bs.drop 0).take 3).length = 3 := by simp [l8 st]
    match ((S8 s).bs.drop 0).take 3, this with
    | [x, y, z], _ => exact ⟨x, y, z, rfl⟩
  obtain ⟨x, y, z, h⟩ := h
  rw [h]; rfl
theorem h0 : s.has 0 (4 : Nat) := by unfold FS.has; rw [st.len]; decide
theorem h2 : (S2 s).has 4 (4 : Nat) := by unfold FS.has; rw [l2 st]; decide
theorem h5 : (S5 s).has 8 (4 : Nat) := by unfold FS.has; rw [l5 st]; decide
theorem h8 : (S8 s).has 0 (3 : Nat) := by unfold FS.has; rw [l8 st]; decide
theorem h9 : (S9 s).has 0 (3 : Nat) := by unfold FS.has; rw [l9 st]; decide
theorem wr6 : ∀ x ∈ (S6 s).wear, 0 ≤ x ∧ x < 9223372036854775807 := by rw [g6 st]; decide
theorem wr8 : ∀ x ∈ (S8 s).wear, 0 ≤ x ∧ x < 9223372036854775807 := by rw [g8 st]; decide
theorem x8 : (S8 s).wear[0]? = some 1 := by rw [g8 st]; rfl
theorem x9 : (S9 s).wear[0]? = some 2 := by rw [g9 st]; rfl
end Go.Proofs.YtlnmbfddhdjioaaGreat
