/-
  Memories: where one stands, bytes at places, and parts of memory: from, there.
-/
import Derived.Test.YtfnjjanknfmibaaGreatGround
import Derived.Deep.RegionLaw
import Derived.LaidEqlPtr
import Derived.Deep.Cut
import Derived.Deep.RegionWith
import Derived.Deep.RegionHeld3
import Derived.Lib.SliceRun
namespace Go.Proofs.YtfnjjanknfmibaaGreat
open Go.RowKit Go.Deep
set_option linter.unusedVariables false

theorem Reads.ifKept {S : List Nat} {w w' : World} {v : Value} {l : List UInt8} {M : Nat} (h : Reads w v l M) (hk : Keeps S w w') (hM : l ≠ [] → M ∉ S) : Reads w' v l M := by
  by_cases hl : l = []
  · subst hl
    obtain ⟨M', h', hn⟩ := h.away (base := 0) (fun h => absurd rfl h) S (fun _ _ => Nat.zero_le _)
    exact (h'.keeps hk hn).anyBlock M
  · exact h.keeps hk (hM hl)

/-- n bytes from an address on are those of a row that begins at b. -/
abbrev inAt (b : Nat) (l : List UInt8) (at' n : Nat) : Prop := b ≤ at' ∧ at' + n ≤ b + l.length
/-- Bytes put at a place. -/
def putAt (l : List UInt8) (o : Nat) (bs : List UInt8) : List UInt8 := l.take o ++ (bs ++ l.drop (o + bs.length))
theorem putAt_length (l : List UInt8) (o : Nat) (bs : List UInt8) (h : o + bs.length ≤ l.length) : (putAt l o bs).length = l.length := by
  simp [putAt]; omega
theorem putAt_nil (l : List UInt8) (o : Nat) (h : o ≤ l.length) : putAt l o [] = l := by simp [putAt]

/-- At block g stands a memory: its RAM in block rb, its window in block M, all from H on. -/
structure MemAt (w : World) (H g rb M : Nat) (wv : Value) (win ram : List UInt8) : Prop where
  whole : Whole w g 57 [.pointer (some ⟨g, 0, none⟩), .int .u32 4096, wv, .int .u32 1048576, .slice (some ⟨rb, 0, none⟩) ram.length ram.length]
  row : Whole w rb 5 (ram.map bv)
  winR : Reads w wv win M
  winM : win ≠ [] → H ≤ M ∧ M < w.heap.size ∧ M ≠ g ∧ M ≠ rb
  gH : H ≤ g
  rbH : H ≤ rb
  ne : g ≠ rb
  ram4 : 4 ≤ ram.length ∧ ram.length ≤ 65536 ∧ ram.length % 4 = 0
  winL : win.length ≤ 65536

section
variable {w : World} {H g rb M : Nat} {wv : Value} {win ram : List UInt8}

theorem MemAt.keeps {S : List Nat} {w' : World} (h : MemAt w H g rb M wv win ram) (hk : Keeps S w w') (hg : g ∉ S) (hr : rb ∉ S) (hM : win ≠ [] → M ∉ S) : MemAt w' H g rb M wv win ram :=
  ⟨h.whole.keeps hk hg, h.row.keeps hk hr, h.winR.ifKept hk hM, fun hw => by have := h.winM hw; have := hk.size; exact ⟨by omega, by omega, by omega, by omega⟩, h.gH, h.rbH, h.ne, h.ram4, h.winL⟩

theorem MemAt.next {w' : World} (h : MemAt w H g rb M wv win ram) (hk : Keeps [] w w') : MemAt w' H g rb M wv win ram := h.keeps hk (by simp) (by simp) (by simp)

theorem MemAt.cell (h : MemAt w H g rb M wv win ram) (i : Nat) (x : Value) (hx : [Value.pointer (some ⟨g, 0, none⟩), .int .u32 4096, wv, .int .u32 1048576, .slice (some ⟨rb, 0, none⟩) ram.length ram.length][i]? = some x) : w.cell? ⟨g, i, none⟩ = some x :=
  (h.whole.cell i).trans hx

theorem MemAt.ramR (h : MemAt w H g rb M wv win ram) : Reads w (.slice (some ⟨rb, 0, none⟩) ram.length ram.length) ram rb :=
  .inr ⟨⟨rb, 0, none⟩, _, rfl, Nat.le_refl _, fun _ => rfl, fun i c hi => by rw [Addr.add_off, Nat.zero_add, h.row.cell i]; simp [hi]⟩
end

theorem run_cut3 (w : World) (a : Option Addr) (len cap : Nat) (lo hi mx : Int) (h0 : 0 ≤ lo) (h1 : lo ≤ hi) (h2 : hi ≤ mx) (h3 : mx ≤ cap) :
    (Instr.sliceAt 23 (.slice a len cap) (some (.int .u32 lo)) (some (.int .u32 hi)) (some (.int .u32 mx))).run Tryz.prog w = .ok (sliced a lo.toNat hi.toNat mx.toNat 1) w := by
  have hu := underBytes
  rw [run_sliceAt_slice _ _ _ _ _ _ hu, run_slice_lhm _ _ _ _ _ hu _ _ _ _ _ _ (by omega) (by omega) (by omega) (by omega), elemBytes, sizeByte]
  rfl

/-- Where n bytes from place k of a slice begin. -/
def offA (a : Option Addr) (k n : Nat) : Option Addr := if n = 0 then a else a.map (·.add k)

theorem sliced3 (a : Option Addr) (k n : Nat) : sliced a k (k + n) (k + n) 1 = .slice (offA a k n) n n := by
  unfold sliced offA
  rw [Nat.mul_one, Nat.add_sub_cancel_left]
  by_cases h : n = 0
  · rw [if_pos (by omega), if_pos h]
  · rw [if_neg (by omega), if_neg h]

set_option maxRecDepth 100000 in
set_option maxHeartbeats 1000000 in
theorem from_in (w : World) (b A : Int) (a : Option Addr) (len cap k n : Nat) (hb : 0 ≤ b) (hb1 : b ≤ 1048576) (hA : A = b + k) (h2 : k + n ≤ len) (hl : len ≤ 65536) (hc : len ≤ cap) :
    Calls Tryz.prog 31 #[.agg #[.int .u32 b, .slice a len cap], .int .u32 A, .int .u32 n] w fun e w' => e = .returned (.tuple #[.slice (offA a k n) n n, .bool true]) ∧ Keeps [] w w' := by
  have hcut := fun w => run_cut3 w a len cap (A - b) (A - b + n) (A - b + n) (by omega) (by omega) (by omega) (by omega)
  rw [show (A - b).toNat = k by omega, show (A - b + n).toNat = k + n by omega, sliced3] at hcut
  have b1 : ¬ A < b := by omega
  have b2 : ¬ (len : Int) < n := by omega
  have b3 : ¬ (len : Int) - n < A - b := by omega
  have b4 : A ≤ 4294967295 := by omega
  have hAb : 0 ≤ A - b := by omega
  have hAb1 : A - b ≤ 65536 := by omega
  clear hA
  generalize offA a k n = a' at *
  go_enter Tryz.func31, Tryz.ntmps31
  go_wp2
  go_ret2
  exact ⟨rfl, Keeps.alloc [] w _⟩

set_option maxRecDepth 100000 in
set_option maxHeartbeats 1000000 in
theorem from_out (w : World) (b A : Int) (a : Option Addr) (len cap n : Nat) (hb : 0 ≤ b) (hb1 : b ≤ 1048576) (hA : 0 ≤ A) (hA1 : A < 4294967296) (hn : n < 4294967296) (h2 : ¬ (b ≤ A ∧ A + n ≤ b + len)) (hl : len ≤ 65536) (hc : len ≤ cap) :
    Calls Tryz.prog 31 #[.agg #[.int .u32 b, .slice a len cap], .int .u32 A, .int .u32 n] w fun e w' => e = .returned (.tuple #[.slice none 0 0, .bool false]) ∧ Keeps [] w w' := by
  by_cases b1 : A < b
  · clear h2
    go_enter Tryz.func31, Tryz.ntmps31
    go_wp2
    go_ret2
    exact ⟨rfl, Keeps.alloc [] w _⟩
  by_cases b2 : (len : Int) < n
  · clear h2
    go_enter Tryz.func31, Tryz.ntmps31
    go_wp2
    go_ret2
    exact ⟨rfl, Keeps.alloc [] w _⟩
  have b3 : (len : Int) - n < A - b := by omega
  clear h2
  go_enter Tryz.func31, Tryz.ntmps31
  go_wp2
  go_ret2
  exact ⟨rfl, Keeps.alloc [] w _⟩
end Go.Proofs.YtfnjjanknfmibaaGreat
