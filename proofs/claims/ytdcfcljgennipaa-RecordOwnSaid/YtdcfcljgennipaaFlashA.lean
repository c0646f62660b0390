/-
  A flash in memory, and the contracts of its small methods.
-/
import Derived.Test.YtdcfcljgennipaaRows
import Derived.Test.YtdcfcljgennipaaVoc
import Derived.Deep.QuietTactic
import Derived.BigQuiet
import Derived.LaidEqlPtr
namespace Go.Proofs.Ytdcfcljgennipaa
open Go.RowKit

/-- What a flash is: its bytes, wears, and power. -/
structure FS where
  bs : List UInt8
  wear : List Int
  down : Bool
  armed : Bool
  left : Int
  mask : List UInt8

/-- The flash s lies at block F, its bytes in B, its wears in W, its mask in M. -/
structure FlashAt (w : World) (F B W M : Nat) (s : FS) : Prop where
  nFB : F ≠ B
  nFW : F ≠ W
  nBW : B ≠ W
  nM : M ≠ F ∧ M ≠ B ∧ M ≠ W
  len : s.bs.length = 256 * s.wear.length
  few : s.wear.length ≤ 256
  left0 : 0 ≤ s.left
  left1 : s.left ≤ 9223372036854775807
  maskl : s.mask.length ≤ 65536
  here : ∃ cb cw mv, w.heap[F]? = some (.cells #[.pointer (some ⟨F, 0, none⟩), .slice (some ⟨B, 0, none⟩) s.bs.length cb, .slice (some ⟨W, 0, none⟩) s.wear.length cw,
      .bool s.down, .bool s.armed, .int .i64 s.left, mv] 79 (0, 0)) ∧
    Row w B 5 (s.bs.map bv) cb ∧ Row w W 3 (s.wear.map (Value.int .i64)) cw ∧ Reads w mv s.mask M

theorem FlashAt.cells {w : World} {F B W M : Nat} {s : FS} (h : FlashAt w F B W M s) : ∃ cb cw mv,
    w.cell? ⟨F, 0, none⟩ = some (.pointer (some ⟨F, 0, none⟩)) ∧ w.cell? ⟨F, 1, none⟩ = some (.slice (some ⟨B, 0, none⟩) s.bs.length cb) ∧
    w.cell? ⟨F, 2, none⟩ = some (.slice (some ⟨W, 0, none⟩) s.wear.length cw) ∧ w.cell? ⟨F, 3, none⟩ = some (.bool s.down) ∧ w.cell? ⟨F, 4, none⟩ = some (.bool s.armed) ∧
    w.cell? ⟨F, 5, none⟩ = some (.int .i64 s.left) ∧ w.cell? ⟨F, 6, none⟩ = some mv ∧ (∀ i, w.frozen? ⟨F, i, none⟩ = false) ∧
    Row w B 5 (s.bs.map bv) cb ∧ Row w W 3 (s.wear.map (Value.int .i64)) cw ∧ Reads w mv s.mask M := by
  obtain ⟨cb, cw, mv, hF, hB, hW, hM⟩ := h.here
  refine ⟨cb, cw, mv, ?_, ?_, ?_, ?_, ?_, ?_, ?_, ?_, hB, hW, hM⟩ <;> simp [World.cell?, World.frozen?, hF]

theorem FlashAt.lt {w : World} {F B W M : Nat} {s : FS} (h : FlashAt w F B W M s) : F < w.heap.size ∧ B < w.heap.size ∧ W < w.heap.size := by
  obtain ⟨cb, cw, mv, hF, hB, hW, hM⟩ := h.here
  exact ⟨(Array.getElem?_eq_some_iff.1 hF).1, hB.lt, hW.lt⟩

theorem FlashAt.keeps {S : List Nat} {w w' : World} {F B W M : Nat} {s : FS} (h : FlashAt w F B W M s) (hk : Keeps S w w') (hF : F ∉ S) (hB : B ∉ S) (hW : W ∉ S) (hM : M ∉ S) : FlashAt w' F B W M s := by
  obtain ⟨cb, cw, mv, f, b, c, m⟩ := h.here
  exact { h with here := ⟨cb, cw, mv, hk.obj f hF, b.keeps hk hB, c.keeps hk hW, m.keeps hk hM⟩ }

theorem infoFlash : ∃ j, Try.prog.info? 79 = some j := Option.isSome_iff_exists.1 (by kernel_rfl)

set_option maxRecDepth 100000 in
set_option maxHeartbeats 400000 in
theorem made_yes (F : Nat) (w : World) (h : w.cell? ⟨F, 0, none⟩ = some (.pointer (some ⟨F, 0, none⟩))) :
    Calls Try.prog 66 #[.pointer (some ⟨F, 0, none⟩)] w fun e w' => e = .returned (.bool true) ∧ w = w' := by
  obtain ⟨j, hj⟩ := infoFlash
  have he := fun w => run_eql_ptr_same (P := Try.prog) w (tp := 36) (te := 79) ⟨F, 0, none⟩ Try.underlying36 hj
  go_enter Try.func66, Try.ntmps66
  go_wp2
  go_ret
  exact ⟨rfl, rfl⟩

set_option maxRecDepth 100000 in
set_option maxHeartbeats 400000 in
theorem made_nil (w : World) :
    Calls Try.prog 66 #[.pointer none] w fun e w' => e = .returned (.bool false) ∧ w = w' := by
  go_enter Try.func66, Try.ntmps66
  go_wp2
  go_ret
  exact ⟨rfl, rfl⟩

theorem run_eql_nil_ptr (w : World) (a : Addr) : (binOp .eql 36 (.pointer none) (.pointer (some a))).run Try.prog w = .ok (.bool false) w := by
  have h : ∀ d : Nat, (Op.equalIn (d + 1) 36 (.pointer none) (.pointer (some a))).run Try.prog w = .ok false w := fun d => by
    simp [Op.equalIn, run_underlying Try.underlying36]
  simp only [binOp]
  simp [Op.equal, Op.maxDepth, h 9999]

set_option maxRecDepth 100000 in
set_option maxHeartbeats 400000 in
theorem made_zero (F : Nat) (w : World) (h : w.cell? ⟨F, 0, none⟩ = some (.pointer none)) :
    Calls Try.prog 66 #[.pointer (some ⟨F, 0, none⟩)] w fun e w' => e = .returned (.bool false) ∧ w = w' := by
  have he := run_eql_nil_ptr
  go_enter Try.func66, Try.ntmps66
  go_wp2
  go_ret
  exact ⟨rfl, rfl⟩

/-- A pointer of which 'made' says no. -/
def NotMade (w : World) (p : Option Addr) : Prop := p = none ∨ ∃ F, p = some ⟨F, 0, none⟩ ∧ w.cell? ⟨F, 0, none⟩ = some (.pointer none)

theorem made_not (p : Option Addr) (w : World) (h : NotMade w p) : Calls Try.prog 66 #[.pointer p] w fun e w' => e = .returned (.bool false) ∧ w = w' := by
  rcases h with rfl | ⟨F, rfl, hc⟩
  · exact made_nil w
  · exact made_zero F w hc

set_option maxRecDepth 100000 in
set_option maxHeartbeats 400000 in
theorem ready_not (p : Option Addr) (w : World) (h : NotMade w p) : Calls Try.prog 58 #[.pointer p] w fun e w' => e = .returned (.int .i64 1) ∧ w = w' := by
  go_enter Try.func58, Try.ntmps58
  go_wp2_with (go_at_call 66; refine (made_not _ _ h).mono ?_; rintro e w' ⟨rfl, rfl⟩)
  go_ret
  exact ⟨rfl, rfl⟩

def FS.ready (s : FS) : Int := if s.down then 12 else 0

set_option maxRecDepth 100000 in
set_option maxHeartbeats 400000 in
theorem ready_yes (F : Nat) (w : World) (d : Bool) (h : w.cell? ⟨F, 0, none⟩ = some (.pointer (some ⟨F, 0, none⟩))) (h3 : w.cell? ⟨F, 3, none⟩ = some (.bool d)) :
    Calls Try.prog 58 #[.pointer (some ⟨F, 0, none⟩)] w fun e w' => e = .returned (.int .i64 (if d then 12 else 0)) ∧ w = w' := by
  cases d
  all_goals
    go_enter Try.func58, Try.ntmps58
    go_wp2_with (go_at_call 66; refine (made_yes _ _ h).mono ?_; rintro e w' ⟨rfl, rfl⟩)
    go_ret
    exact ⟨rfl, rfl⟩

set_option maxRecDepth 100000 in
set_option maxHeartbeats 400000 in
theorem has_any (F B : Nat) (w : World) (n cb : Nat) (a k : Int) (hn : n ≤ 65536) (h1 : w.cell? ⟨F, 1, none⟩ = some (.slice (some ⟨B, 0, none⟩) n cb)) (hk : k ≤ 9223372036854775807) :
    Calls Try.prog 59 #[.pointer (some ⟨F, 0, none⟩), .int .i64 a, .int .i64 k] w fun e w' => e = .returned (.bool (decide (0 ≤ a ∧ 0 ≤ k ∧ a + k ≤ n))) ∧ w = w' := by
  by_cases ha : 0 ≤ a
  · by_cases hk0 : 0 ≤ k
    · go_enter Try.func59, Try.ntmps59
      go_wp2
      go_ret
      refine ⟨?_, rfl⟩
      congr 2
      simp [ha, hk0]
      omega
    · go_enter Try.func59, Try.ntmps59
      go_wp2
      go_ret
      refine ⟨?_, rfl⟩
      simp
      omega
  · go_enter Try.func59, Try.ntmps59
    go_wp2
    go_ret
    refine ⟨?_, rfl⟩
    simp
    omega

set_option maxRecDepth 100000 in
set_option maxHeartbeats 400000 in
theorem hasSector_any (F W : Nat) (w : World) (n cw : Nat) (a : Int) (h2 : w.cell? ⟨F, 2, none⟩ = some (.slice (some ⟨W, 0, none⟩) n cw)) :
    Calls Try.prog 67 #[.pointer (some ⟨F, 0, none⟩), .int .i64 a] w fun e w' => e = .returned (.bool (decide (0 ≤ a ∧ a < n))) ∧ w = w' := by
  by_cases ha : 0 ≤ a
  · go_enter Try.func67, Try.ntmps67
    go_wp2
    go_ret
    refine ⟨?_, rfl⟩
    congr 2
    simp [ha]
  · go_enter Try.func67, Try.ntmps67
    go_wp2
    go_ret
    refine ⟨?_, rfl⟩
    simp
    omega

theorem has_yes (F B : Nat) (w : World) (n cb : Nat) (a k : Int) (hn : n ≤ 65536) (h1 : w.cell? ⟨F, 1, none⟩ = some (.slice (some ⟨B, 0, none⟩) n cb)) (h : 0 ≤ a ∧ 0 ≤ k ∧ a + k ≤ n) :
    Calls Try.prog 59 #[.pointer (some ⟨F, 0, none⟩), .int .i64 a, .int .i64 k] w fun e w' => e = .returned (.bool true) ∧ w = w' :=
  (has_any F B w n cb a k hn h1 (by omega)).mono fun _ _ ⟨he, hw⟩ => ⟨by rw [he, decide_eq_true h], hw⟩

theorem has_no (F B : Nat) (w : World) (n cb : Nat) (a k : Int) (hn : n ≤ 65536) (h1 : w.cell? ⟨F, 1, none⟩ = some (.slice (some ⟨B, 0, none⟩) n cb)) (hk : k ≤ 9223372036854775807) (h : ¬ (0 ≤ a ∧ 0 ≤ k ∧ a + k ≤ n)) :
    Calls Try.prog 59 #[.pointer (some ⟨F, 0, none⟩), .int .i64 a, .int .i64 k] w fun e w' => e = .returned (.bool false) ∧ w = w' :=
  (has_any F B w n cb a k hn h1 hk).mono fun _ _ ⟨he, hw⟩ => ⟨by rw [he, decide_eq_false h], hw⟩

theorem hasSector_yes (F W : Nat) (w : World) (n cw : Nat) (a : Int) (h2 : w.cell? ⟨F, 2, none⟩ = some (.slice (some ⟨W, 0, none⟩) n cw)) (h : 0 ≤ a ∧ a < n) :
    Calls Try.prog 67 #[.pointer (some ⟨F, 0, none⟩), .int .i64 a] w fun e w' => e = .returned (.bool true) ∧ w = w' :=
  (hasSector_any F W w n cw a h2).mono fun _ _ ⟨he, hw⟩ => ⟨by rw [he, decide_eq_true h], hw⟩

theorem hasSector_no (F W : Nat) (w : World) (n cw : Nat) (a : Int) (h2 : w.cell? ⟨F, 2, none⟩ = some (.slice (some ⟨W, 0, none⟩) n cw)) (h : ¬ (0 ≤ a ∧ a < n)) :
    Calls Try.prog 67 #[.pointer (some ⟨F, 0, none⟩), .int .i64 a] w fun e w' => e = .returned (.bool false) ∧ w = w' :=
  (hasSector_any F W w n cw a h2).mono fun _ _ ⟨he, hw⟩ => ⟨by rw [he, decide_eq_false h], hw⟩
end Go.Proofs.Ytdcfcljgennipaa
