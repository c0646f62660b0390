/-
  Contracts: the closures of the operations, and what does them.
-/
import Derived.Test.YtdcfcljgennipaaFlashC
import Derived.Deep.RegionWith
import Derived.Deep.RegionHeld3
namespace Go.Proofs.Ytdcfcljgennipaa
open Go.RowKit

set_option maxRecDepth 100000 in
set_option maxHeartbeats 400000 in
theorem whole_any (w : World) (i : Int) : Calls Try.prog 92 #[.int .i64 i] w fun e w' => e = .returned (.int .u8 255) ∧ w = w' := by
  go_enter Try.func92, Try.ntmps92
  go_wp2
  go_ret
  exact ⟨rfl, rfl⟩

set_option maxRecDepth 100000 in
set_option maxHeartbeats 400000 in
theorem set_any (w : World) (i : Int) (a b : Value) : Calls Try.prog 89 #[.int .i64 i, a, b] w fun e w' => e = .returned b ∧ w = w' := by
  go_enter Try.func89, Try.ntmps89
  go_wp2
  go_ret
  exact ⟨rfl, rfl⟩

set_option maxRecDepth 100000 in
set_option maxHeartbeats 400000 in
theorem torn_in (w : World) (F M off cap n : Nat) (i : Nat) (c : UInt8) (_hn : n ≤ 65536) (h6 : w.cell? ⟨F, 6, none⟩ = some (.slice (some ⟨M, off, none⟩) n cap)) (hi : i < n) (hc : w.cell? ⟨M, off + i, none⟩ = some (bv c)) :
    Calls Try.prog 93 #[.pointer (some ⟨F, 3, none⟩), .int .i64 i] w fun e w' => e = .returned (bv c) ∧ w = w' := by
  go_enter Try.func93, Try.ntmps93
  go_wp2
  go_ret
  exact ⟨rfl, rfl⟩

set_option maxRecDepth 100000 in
set_option maxHeartbeats 400000 in
theorem torn_out (w : World) (F cap n : Nat) (ao : Option Addr) (i : Nat) (_hn : n ≤ 65536) (h6 : w.cell? ⟨F, 6, none⟩ = some (.slice ao n cap)) (hi : n ≤ i) :
    Calls Try.prog 93 #[.pointer (some ⟨F, 3, none⟩), .int .i64 i] w fun e w' => e = .returned (bv 0) ∧ w = w' := by
  go_enter Try.func93, Try.ntmps93
  go_wp2
  go_ret
  exact ⟨rfl, rfl⟩

theorem torn_any (w : World) (F M : Nat) (mv : Value) (m : List UInt8) (i : Nat) (hm : m.length ≤ 65536) (h6 : w.cell? ⟨F, 6, none⟩ = some mv) (hr : Reads w mv m M) :
    Calls Try.prog 93 #[.pointer (some ⟨F, 3, none⟩), .int .i64 i] w fun e w' => e = .returned (bv (m.getD i 0)) ∧ w' = w := by
  by_cases hi : i < m.length
  · obtain ⟨off, cap, rfl, _, hc⟩ := hr.at (by intro e; simp [e] at hi)
    have hmi : m[i]? = some m[i] := List.getElem?_eq_getElem hi
    rw [show m.getD i 0 = m[i] by simp [List.getD, hmi]]
    exact (torn_in w F M off cap m.length i m[i] hm h6 hi (hc i _ hmi)).mono fun _ _ h => ⟨h.1, h.2.symm⟩
  · rw [show m.getD i 0 = 0 by simp [List.getD, List.getElem?_eq_none (Nat.le_of_not_lt hi)]]
    obtain ⟨ao, cap, rfl⟩ : ∃ ao cap, mv = .slice ao m.length cap := by
      rcases hr with ⟨rfl, rfl⟩ | ⟨ad, cap, rfl, _⟩
      · exact ⟨none, 0, rfl⟩
      · exact ⟨_, _, rfl⟩
    exact (torn_out w F cap m.length ao i hm h6 (by omega)).mono fun _ _ h => ⟨h.1, h.2.symm⟩

theorem andNot_u8 (a b : UInt8) : bits .andNot .u8 (a.toNat : Int) (b.toNat : Int) = ((a &&& ~~~b).toNat : Int) := by
  have ha := a.toNat_lt
  have hb := b.toNat_lt
  rw [u8_andNot_nat _ _ (by omega) (by omega)]
  simp [UInt8.toNat_and, UInt8.toNat_not]

/-- What becomes of a byte that is programmed, with the bits of through let through. -/
def clears (old through b : UInt8) : UInt8 := old &&& ~~~(through &&& ~~~b)

set_option maxRecDepth 100000 in
set_option maxHeartbeats 400000 in
theorem cleared_any (w : World) (bx M off cap n : Nat) (i : Nat) (old through c : UInt8) (_hn : n ≤ 65536) (hb : w.cell? ⟨bx, 0, none⟩ = some (.slice (some ⟨M, off, none⟩) n cap)) (hi : i < n) (hc : w.cell? ⟨M, off + i, none⟩ = some (bv c)) :
    Calls Try.prog 75 #[.int .i64 i, bv old, bv through, .pointer (some ⟨bx, 0, none⟩)] w fun e w' => e = .returned (bv (clears old through c)) ∧ w = w' := by
  have h1 := old.toNat_lt
  have h2 := through.toNat_lt
  have h3 := c.toNat_lt
  unfold bv at *
  go_enter Try.func75, Try.ntmps75
  go_wp2
  go_ret
  refine ⟨?_, rfl⟩
  show Ending.returned (.int .u8 (bits .andNot .u8 (old.toNat : Int) (bits .andNot .u8 (through.toNat : Int) (c.toNat : Int)))) = _
  rw [andNot_u8, andNot_u8]
  rfl

/-- Bytes of which those from a on, k of them, were turned, each by its place and what it was. -/
def span (bs : List UInt8) (a k : Nat) (g : Nat → UInt8 → UInt8) : List UInt8 := bs.mapIdx fun j c => if a ≤ j ∧ j < a + k then g (j - a) c else c

theorem span_length (bs : List UInt8) (a k : Nat) (g : Nat → UInt8 → UInt8) : (span bs a k g).length = bs.length := by simp [span]

theorem span_zero (bs : List UInt8) (a : Nat) (g : Nat → UInt8 → UInt8) : span bs a 0 g = bs := by
  refine List.ext_getElem? fun j => ?_
  simp only [span, List.getElem?_mapIdx]
  cases h : bs[j]? with
  | none => rfl
  | some c => simp only [Option.map_some]; rw [if_neg (by omega)]

theorem span_at (bs : List UInt8) (a k : Nat) (g : Nat → UInt8 → UInt8) : (span bs a k g)[a + k]? = bs[a + k]? := by
  simp only [span, List.getElem?_mapIdx]
  cases h : bs[a + k]? with
  | none => rfl
  | some c => simp only [Option.map_some]; rw [if_neg (by omega)]

theorem span_set (bs : List UInt8) (a k : Nat) (g : Nat → UInt8 → UInt8) (c : UInt8) (hc : bs[a + k]? = some c) : (span bs a k g).set (a + k) (g k c) = span bs a (k + 1) g := by
  refine List.ext_getElem? fun j => ?_
  rw [List.getElem?_set]
  simp only [span_length]
  have hlt := (List.getElem?_eq_some_iff.1 hc).1
  simp only [span, List.getElem?_mapIdx]
  by_cases h : a + k = j
  · subst h
    rw [if_pos rfl, if_pos hlt, hc]
    simp
  · rw [if_neg h]
    cases h2 : bs[j]? with
    | none => rfl
    | some d =>
      simp only [Option.map_some, Option.some.injEq]
      by_cases h3 : a ≤ j ∧ j < a + k
      · rw [if_pos h3, if_pos (by omega)]
      · rw [if_neg h3, if_neg (by omega)]

theorem span_more (bs : List UInt8) (a k : Nat) (g : Nat → UInt8 → UInt8) (c : UInt8) (hc : bs[a + k]? = some c) : ((span bs a k g).map bv).set (a + k) (bv (g k c)) = (span bs a (k + 1) g).map bv := by
  rw [← List.map_set, span_set bs a k g c hc]

end Go.Proofs.Ytdcfcljgennipaa
