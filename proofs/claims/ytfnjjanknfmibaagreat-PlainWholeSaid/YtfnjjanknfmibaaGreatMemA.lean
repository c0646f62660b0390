/-
  Memories: made, aligned, there, writable.
-/
import Derived.Test.YtfnjjanknfmibaaGreatMemBase
namespace Go.Proofs.YtfnjjanknfmibaaGreat
open Go.RowKit
set_option linter.unusedVariables false

theorem infoMemory : ∃ j, Tryz.prog.info? 57 = some j := Option.isSome_iff_exists.1 (by kernel_rfl)
theorem mmMade_at (w : World) (g : Nat) (hc : w.cell? ⟨g, 0, none⟩ = some (.pointer (some ⟨g, 0, none⟩))) :
    Calls Tryz.prog 17 #[.pointer (some ⟨g, 0, none⟩)] w fun e w' => e = .returned (.bool true) ∧ w = w' := by
  obtain ⟨j, hj⟩ := infoMemory
  have he := fun w => run_eql_ptr_same (P := Tryz.prog) w (tp := 26) (te := 57) ⟨g, 0, none⟩ Tryz.underlying26 hj
  go_enter Tryz.func17, Tryz.ntmps17
  go_wp2
  go_ret
  exact ⟨rfl, rfl⟩

/-- No memory, or one that New did not return. -/
def NotMem (w : World) (p : Option Addr) : Prop := p = none ∨ ∃ g, p = some ⟨g, 0, none⟩ ∧ w.cell? ⟨g, 0, none⟩ = some (.pointer none)
theorem NotMem.keeps {w w' : World} {p : Option Addr} (h : NotMem w p) (hk : Keeps [] w w') : NotMem w' p := by
  rcases h with rfl | ⟨F, rfl, hc⟩
  · exact .inl rfl
  · exact .inr ⟨F, rfl, hk.cell hc (by simp)⟩

theorem run_eql_nil_mem (w : World) (a : Addr) : (binOp .eql 26 (.pointer none) (.pointer (some a))).run Tryz.prog w = .ok (.bool false) w := by
  have h : ∀ d : Nat, (Op.equalIn (d + 1) 26 (.pointer none) (.pointer (some a))).run Tryz.prog w = .ok false w := fun d => by
    simp [Op.equalIn, run_underlying Tryz.underlying26]
  simp only [binOp]
  simp [Op.equal, Op.maxDepth, h 9999]
theorem mmMade_not (w : World) (p : Option Addr) (h : NotMem w p) : Calls Tryz.prog 17 #[.pointer p] w fun e w' => e = .returned (.bool false) ∧ w = w' := by
  rcases h with rfl | ⟨g, rfl, hc⟩
  · go_enter Tryz.func17, Tryz.ntmps17
    go_wp2
    go_ret
    exact ⟨rfl, rfl⟩
  · have he := run_eql_nil_mem
    go_enter Tryz.func17, Tryz.ntmps17
    go_wp2
    go_ret
    exact ⟨rfl, rfl⟩

theorem aligned_not (w : World) (p : Option Addr) (h : NotMem w p) (A : Int) : Calls Tryz.prog 153 #[.pointer p, .int .u32 A] w fun e w' => e = .returned (.int .i32 0) ∧ w = w' := by
  go_enter Tryz.func153, Tryz.ntmps153
  go_wp2_with (go_at_call 17; refine (mmMade_not _ _ h).mono ?_; rintro e w' ⟨rfl, rfl⟩)
  go_ret
  exact ⟨rfl, rfl⟩

set_option maxRecDepth 100000 in
theorem there_not (w : World) (p : Option Addr) (h : NotMem w p) (A n : Int) : Calls Tryz.prog 19 #[.pointer p, .int .u32 A, .int .u32 n] w fun e w' => e = .returned (.tuple #[.slice none 0 0, .int .i32 (-9)]) ∧ w = w' := by
  go_enter Tryz.func19, Tryz.ntmps19
  go_wp2_with (go_at_call 17; refine (mmMade_not _ _ h).mono ?_; rintro e w' ⟨rfl, rfl⟩)
  go_ret2
  exact ⟨rfl, rfl⟩

set_option maxRecDepth 100000 in
theorem writable_not (w : World) (p : Option Addr) (h : NotMem w p) (A n : Int) : Calls Tryz.prog 154 #[.pointer p, .int .u32 A, .int .u32 n] w fun e w' => e = .returned (.tuple #[.slice none 0 0, .int .i32 (-9)]) ∧ w = w' := by
  go_enter Tryz.func154, Tryz.ntmps154
  go_wp2_with (go_at_call 19; refine (there_not _ _ h _ _).mono ?_; rintro e w' ⟨rfl, rfl⟩)
  go_ret2
  exact ⟨rfl, rfl⟩

theorem run_part0 (w : World) (x y : Int) (v u : Value) : (Instr.index 76 (.agg #[.int .u32 x, v, .int .u32 y, u]) (.int .i64 0)).run Tryz.prog w = .ok (.agg #[.int .u32 x, v]) w := by kernel_rfl
theorem run_part1 (w : World) (x y : Int) (v u : Value) : (Instr.index 76 (.agg #[.int .u32 x, v, .int .u32 y, u]) (.int .i64 1)).run Tryz.prog w = .ok (.agg #[.int .u32 y, u]) w := by kernel_rfl

section
variable {w : World} {H g rb M : Nat} {wv : Value} {win ram : List UInt8}

theorem aligned_at (h : MemAt w H g rb M wv win ram) (A : Int) (a0 : 0 ≤ A) (a1 : A < 4294967296) (t : Int) (ht : t = if A % 4 = 0 then 0 else -23) :
    Calls Tryz.prog 153 #[.pointer (some ⟨g, 0, none⟩), .int .u32 A] w fun e w' => e = .returned (.int .i32 t) ∧ w = w' := by
  have c0 := h.cell 0 _ rfl
  clear h
  by_cases ha : A % 4 = 0
  · rw [if_pos ha] at ht
    subst ht
    go_enter Tryz.func153, Tryz.ntmps153
    go_wp2_with (go_at_call 17; refine (mmMade_at _ _ c0).mono ?_; rintro e w' ⟨rfl, rfl⟩)
    go_ret
    exact ⟨rfl, rfl⟩
  · rw [if_neg ha] at ht
    subst ht
    go_enter Tryz.func153, Tryz.ntmps153
    go_wp2_with (go_at_call 17; refine (mmMade_at _ _ c0).mono ?_; rintro e w' ⟨rfl, rfl⟩)
    go_ret
    exact ⟨rfl, rfl⟩

set_option maxRecDepth 100000 in
set_option maxHeartbeats 1000000 in
theorem there_win (h : MemAt w H g rb M wv win ram) {a : Option Addr} {cap : Nat} (hwv : wv = .slice a win.length cap) (A : Int) (k n : Nat) (hA : A = 4096 + k) (hkn : k + n ≤ win.length) :
    Calls Tryz.prog 19 #[.pointer (some ⟨g, 0, none⟩), .int .u32 A, .int .u32 n] w fun e w' => e = .returned (.tuple #[.slice (offA a k n) n n, .int .i32 0]) ∧ Keeps [] w w' := by
  have c0 := h.cell 0 _ rfl
  have c1 := h.cell 1 _ rfl
  have c2 := h.cell 2 _ rfl
  have c3 := h.cell 3 _ rfl
  have c4 := h.cell 4 _ rfl
  have hwl := h.winL
  subst hwv
  have hcap := h.winR.len.2
  have HF := Lib.hid (fun w => from_in w 4096 A a win.length cap k n (by decide) (by decide) hA hkn hwl hcap)
  have p0 := run_part0
  have p1 := run_part1
  clear h hA
  generalize offA a k n = a' at *
  generalize win.length = wl at *
  go_enter Tryz.func19, Tryz.ntmps19
  go_wp2_with (first | (go_at_call 17; refine (mmMade_at _ _ c0).mono ?_; rintro e w' ⟨rfl, rfl⟩) | go_quiet (fail) | fail)
  generalize hV : World.drewN _ _ = V
  have kV : Keeps [] w V := by rw [← hV]; exact Keeps.drewN _ _ _
  have KV := Lib.hid kV
  clear hV kV
  go_loopw [9, 10, 11, 24] (fun _ _ _ i wr => i = .int .i64 0 ∧ Hid (Keeps [] w wr)) (fun _ _ _ i _ => 2 - (intOf i).toNat)
  case atStart => exact ⟨rfl, KV⟩
  case round =>
    obtain ⟨rfl, hkw⟩ := hrel
    go_wp2_with (first | (go_at_call 31; refine (HF.out _).mono ?_; rintro e w2 ⟨rfl, hk⟩; have HK := Lib.hid hk; clear hk))
    go_ret2
    exact ⟨rfl, hkw.out.trans ((Keeps.alloc [] _ _).trans HK.out)⟩

set_option maxRecDepth 100000 in
set_option maxHeartbeats 1000000 in
theorem there_ram (h : MemAt w H g rb M wv win ram) (A : Int) (k n : Nat) (hA : A = 1048576 + k) (hkn : k + n ≤ ram.length) :
    Calls Tryz.prog 19 #[.pointer (some ⟨g, 0, none⟩), .int .u32 A, .int .u32 n] w fun e w' => e = .returned (.tuple #[.slice (offA (some ⟨rb, 0, none⟩) k n) n n, .int .i32 0]) ∧ Keeps [] w w' := by
  have c0 := h.cell 0 _ rfl
  have c1 := h.cell 1 _ rfl
  have c2 := h.cell 2 _ rfl
  have c3 := h.cell 3 _ rfl
  have c4 := h.cell 4 _ rfl
  have hwl := h.winL
  have hrl := h.ram4
  obtain ⟨a, cap, hwv, hcap⟩ := h.winR.shape
  subst hwv
  have HF0 := Lib.hid (fun w => from_out w 4096 A a win.length cap n (by decide) (by decide) (by omega) (by omega) (by omega) (by omega) hwl hcap)
  have HF1 := Lib.hid (fun w => from_in w 1048576 A (some ⟨rb, 0, none⟩) ram.length ram.length k n (by decide) (by decide) hA hkn (by omega) (Nat.le_refl _))
  have p0 := run_part0
  have p1 := run_part1
  clear h hA hrl
  generalize offA (some ⟨rb, 0, none⟩) k n = a' at *
  generalize win.length = wl at *
  generalize ram.length = rl at *
  go_enter Tryz.func19, Tryz.ntmps19
  go_wp2_with (first | (go_at_call 17; refine (mmMade_at _ _ c0).mono ?_; rintro e w' ⟨rfl, rfl⟩) | go_quiet (fail) | fail)
  generalize hV : World.drewN _ _ = V
  have kV : Keeps [] w V := by rw [← hV]; exact Keeps.drewN _ _ _
  have KV := Lib.hid kV
  clear hV kV
  go_loopw [9, 10, 11, 24] (fun _ _ _ i wr => ∃ j : Nat, j < 2 ∧ i = .int .i64 j ∧ Hid (Keeps [] w wr)) (fun _ _ _ i _ => 2 - (intOf i).toNat)
  case atStart => exact ⟨0, by omega, rfl, KV⟩
  case round =>
    obtain ⟨j, hj, rfl, hkw⟩ := hrel
    match j, hj with
    | 0, _ =>
      go_wp2_with (first | (go_at_call 31; refine (HF0.out _).mono ?_; rintro e w2 ⟨rfl, hk⟩; have HK := Lib.hid hk; clear hk))
      go_roundw
      case rel => exact ⟨1, by omega, rfl, Lib.hid (hkw.out.trans ((Keeps.alloc [] _ _).trans HK.out))⟩
      case measure => simp [intOf]
    | 1, _ =>
      go_wp2_with (first | (go_at_call 31; refine (HF1.out _).mono ?_; rintro e w2 ⟨rfl, hk⟩; have HK := Lib.hid hk; clear hk))
      go_ret2
      exact ⟨rfl, hkw.out.trans ((Keeps.alloc [] _ _).trans HK.out)⟩

set_option maxRecDepth 100000 in
set_option maxHeartbeats 1000000 in
theorem there_out (h : MemAt w H g rb M wv win ram) (A : Int) (n : Nat) (a0 : 0 ≤ A) (a1 : A < 4294967296) (n1 : n < 4294967296) (h1 : ¬ (4096 ≤ A ∧ A + n ≤ 4096 + win.length)) (h2 : ¬ (1048576 ≤ A ∧ A + n ≤ 1048576 + ram.length)) :
    Calls Tryz.prog 19 #[.pointer (some ⟨g, 0, none⟩), .int .u32 A, .int .u32 n] w fun e w' => e = .returned (.tuple #[.slice none 0 0, .int .i32 (-9)]) ∧ Keeps [] w w' := by
  have c0 := h.cell 0 _ rfl
  have c1 := h.cell 1 _ rfl
  have c2 := h.cell 2 _ rfl
  have c3 := h.cell 3 _ rfl
  have c4 := h.cell 4 _ rfl
  have hwl := h.winL
  have hrl := h.ram4
  obtain ⟨a, cap, hwv, hcap⟩ := h.winR.shape
  subst hwv
  have HF0 := Lib.hid (fun w => from_out w 4096 A a win.length cap n (by decide) (by decide) a0 a1 n1 h1 hwl hcap)
  have HF1 := Lib.hid (fun w => from_out w 1048576 A (some ⟨rb, 0, none⟩) ram.length ram.length n (by decide) (by decide) a0 a1 n1 h2 (by omega) (Nat.le_refl _))
  have p0 := run_part0
  have p1 := run_part1
  clear h hrl h1 h2
  generalize win.length = wl at *
  generalize ram.length = rl at *
  go_enter Tryz.func19, Tryz.ntmps19
  go_wp2_with (first | (go_at_call 17; refine (mmMade_at _ _ c0).mono ?_; rintro e w' ⟨rfl, rfl⟩) | go_quiet (fail) | fail)
  generalize hV : World.drewN _ _ = V
  have kV : Keeps [] w V := by rw [← hV]; exact Keeps.drewN _ _ _
  have KV := Lib.hid kV
  clear hV kV
  go_loopw [9, 10, 11, 24] (fun _ _ _ i wr => ∃ j : Nat, j ≤ 2 ∧ i = .int .i64 j ∧ Hid (Keeps [] w wr)) (fun _ _ _ i _ => 2 - (intOf i).toNat)
  case atStart => exact ⟨0, by omega, rfl, KV⟩
  case round =>
    obtain ⟨j, hj, rfl, hkw⟩ := hrel
    match j, hj with
    | 0, _ =>
      go_wp2_with (first | (go_at_call 31; refine (HF0.out _).mono ?_; rintro e w2 ⟨rfl, hk⟩; have HK := Lib.hid hk; clear hk))
      go_roundw
      case rel => exact ⟨1, by omega, rfl, Lib.hid (hkw.out.trans ((Keeps.alloc [] _ _).trans HK.out))⟩
      case measure => simp [intOf]
    | 1, _ =>
      go_wp2_with (first | (go_at_call 31; refine (HF1.out _).mono ?_; rintro e w2 ⟨rfl, hk⟩; have HK := Lib.hid hk; clear hk))
      go_roundw
      case rel => exact ⟨2, by omega, rfl, Lib.hid (hkw.out.trans ((Keeps.alloc [] _ _).trans HK.out))⟩
      case measure => simp [intOf]
    | 2, _ =>
      go_wp2
      go_ret2
      exact ⟨rfl, hkw.out⟩

/-! ### writable -/
set_option maxRecDepth 100000 in
theorem writable_ram (h : MemAt w H g rb M wv win ram) (A : Int) (k n : Nat) (hA : A = 1048576 + k) (hkn : k + n ≤ ram.length) :
    Calls Tryz.prog 154 #[.pointer (some ⟨g, 0, none⟩), .int .u32 A, .int .u32 n] w fun e w' => e = .returned (.tuple #[.slice (offA (some ⟨rb, 0, none⟩) k n) n n, .int .i32 0]) ∧ Keeps [] w w' := by
  have HT := Lib.hid (there_ram h A k n hA hkn)
  have b1 : ¬ A < 1048576 := by omega
  clear h hA
  generalize offA (some ⟨rb, 0, none⟩) k n = a' at *
  by_cases hn : n = 0
  · subst hn
    go_enter Tryz.func154, Tryz.ntmps154
    go_wp2_with (go_at_call 19; refine HT.out.mono ?_; rintro e w' ⟨rfl, hk⟩; have HK := Lib.hid hk; clear hk)
    go_ret2
    exact ⟨rfl, HK.out⟩
  · have hn0 : 0 < n := by omega
    clear hn
    go_enter Tryz.func154, Tryz.ntmps154
    go_wp2_with (go_at_call 19; refine HT.out.mono ?_; rintro e w' ⟨rfl, hk⟩; have HK := Lib.hid hk; clear hk)
    go_ret2
    exact ⟨rfl, HK.out⟩

set_option maxRecDepth 100000 in
theorem writable_win0 (h : MemAt w H g rb M wv win ram) {a : Option Addr} {cap : Nat} (hwv : wv = .slice a win.length cap) (A : Int) (k : Nat) (hA : A = 4096 + k) (hkn : k ≤ win.length) :
    Calls Tryz.prog 154 #[.pointer (some ⟨g, 0, none⟩), .int .u32 A, .int .u32 0] w fun e w' => e = .returned (.tuple #[.slice a 0 0, .int .i32 0]) ∧ Keeps [] w w' := by
  have HT := Lib.hid (there_win h hwv A k 0 hA (by omega))
  clear h hA
  rw [show offA a k 0 = a from rfl] at HT
  go_enter Tryz.func154, Tryz.ntmps154
  go_wp2_with (go_at_call 19; refine HT.out.mono ?_; rintro e w' ⟨rfl, hk⟩; have HK := Lib.hid hk; clear hk)
  go_ret2
  exact ⟨rfl, HK.out⟩

set_option maxRecDepth 100000 in
theorem writable_win (h : MemAt w H g rb M wv win ram) (A : Int) (k n : Nat) (hA : A = 4096 + k) (hn : 0 < n) (hkn : k + n ≤ win.length) :
    Calls Tryz.prog 154 #[.pointer (some ⟨g, 0, none⟩), .int .u32 A, .int .u32 n] w fun e w' => e = .returned (.tuple #[.slice none 0 0, .int .i32 (-20)]) ∧ Keeps [] w w' := by
  obtain ⟨a, cap, hwv, hcap⟩ := h.winR.shape
  have HT := Lib.hid (there_win h hwv A k n hA hkn)
  have hwl := h.winL
  have b1 : A < 1048576 := by omega
  clear h hA hwv
  generalize offA a k n = a' at *
  go_enter Tryz.func154, Tryz.ntmps154
  go_wp2_with (go_at_call 19; refine HT.out.mono ?_; rintro e w' ⟨rfl, hk⟩; have HK := Lib.hid hk; clear hk)
  go_ret2
  exact ⟨rfl, HK.out⟩

set_option maxRecDepth 100000 in
theorem writable_out (h : MemAt w H g rb M wv win ram) (A : Int) (n : Nat) (a0 : 0 ≤ A) (a1 : A < 4294967296) (n1 : n < 4294967296) (h1 : ¬ (4096 ≤ A ∧ A + n ≤ 4096 + win.length)) (h2 : ¬ (1048576 ≤ A ∧ A + n ≤ 1048576 + ram.length)) :
    Calls Tryz.prog 154 #[.pointer (some ⟨g, 0, none⟩), .int .u32 A, .int .u32 n] w fun e w' => e = .returned (.tuple #[.slice none 0 0, .int .i32 (-9)]) ∧ Keeps [] w w' := by
  have HT := Lib.hid (there_out h A n a0 a1 n1 h1 h2)
  clear h h1 h2
  go_enter Tryz.func154, Tryz.ntmps154
  go_wp2_with (go_at_call 19; refine HT.out.mono ?_; rintro e w' ⟨rfl, hk⟩; have HK := Lib.hid hk; clear hk)
  go_ret2
  exact ⟨rfl, HK.out⟩
end
end Go.Proofs.YtfnjjanknfmibaaGreat
