/-
  Contracts of the document's own record (lightshipref04): Size, nothing, head.
  Contracts of the document's own record (lightshipref04): head.
-/
import Derived.Test.YtlnmbfddhdjioaaGreatRecE
namespace Go.Proofs.YtlnmbfddhdjioaaGreat
open Go.RowKit

set_option maxRecDepth 100000 in
set_option maxHeartbeats 1000000 in
theorem R4Size_ok (w : World) (n : Nat) (hn : n ≤ 4080) :
    Calls Tryz.prog 30 #[.int .i64 n] w fun e w' => e = .returned (.int .i64 (sizeN n)) ∧ w = w' := by
  have h1 := fillN_ge n
  have h2 := fillN_lt n
  have h3 := fillN_mod n
  have hs : (sizeN n : Int) = (fillN n : Int) + 12 := by unfold sizeN; omega
  rw [hs]
  generalize fillN n = f at *
  clear hs
  go_enter Tryz.func30, Tryz.ntmps30
  go_wp2
  go_loop [0] (fun x => ∃ k : Nat, n ≤ k ∧ k ≤ f ∧ x = .int .i64 k) (fun x => f - (intOf x).toNat)
  case atStart => exact ⟨n, Nat.le_refl _, h1, rfl⟩
  case round =>
    obtain ⟨k, hk1, hk2, rfl⟩ := hrel
    obtain ⟨r, hr⟩ : ∃ r, r = k % 4 := ⟨_, rfl⟩
    have e1 : (k : Int) % 4 = (r : Int) := by omega
    have e2 : (k : Int).tmod 4 = (r : Int) := by rw [Int.tmod_eq_emod_of_nonneg (by omega)]; exact e1
    have hk4 : k ≤ 5000 := by omega
    by_cases hlt : k < f
    · have hne : (((r : Int) != 0) : Bool) = true := by simp; omega
      have HK1 := Lib.hid hk1
      clear hr hk1 h1 h2 h3 hk2
      go_wp2
      go_round
      case rel => exact ⟨k + 1, by have := HK1.out; omega, by omega, by go_num⟩
      case measure => simp [intOf]; omega
    · obtain rfl : k = f := by omega
      have he : ((0 : Int) != 0) = false := rfl
      obtain rfl : r = 0 := by omega
      clear hr h1 h2 h3 hk1 hk2 hlt
      go_wp2
      go_ret
      exact ⟨rfl, rfl⟩

set_option maxRecDepth 100000 in
theorem R4Size_out (w : World) (n : Int) (hn : n < 0 ∨ 4080 < n) :
    Calls Tryz.prog 30 #[.int .i64 n] w fun e w' => e = .returned (.int .i64 0) ∧ w = w' := by
  rcases hn with h | h
  · go_enter Tryz.func30, Tryz.ntmps30
    go_wp2
    go_ret
    exact ⟨rfl, rfl⟩
  · by_cases h0 : n < 0
    · omega
    · go_enter Tryz.func30, Tryz.ntmps30
      go_wp2
      go_ret
      exact ⟨rfl, rfl⟩

theorem blank_take_succ (b : List UInt8) (k : Nat) (c : UInt8) (hc : b[k]? = some c) (h : blank (b.take k)) (h2 : c = 255) : blank (b.take (k + 1)) := by
  intro x hx
  rw [List.take_add_one, hc] at hx
  simp at hx
  rcases hx with h' | h'
  · exact h x h'
  · rw [h', h2]

theorem writtenN_zero (b : List UInt8) : writtenN b = 0 ↔ blank b := by
  have := blank_drop b 0
  rw [List.drop_zero] at this
  rw [this]; omega

end Go.Proofs.YtlnmbfddhdjioaaGreat

namespace Go.Proofs.YtlnmbfddhdjioaaGreat
open Go.RowKit

theorem R4Size_nat (w : World) (n : Nat) :
    Calls Tryz.prog 30 #[.int .i64 n] w fun e w' => e = .returned (.int .i64 (if n ≤ 4080 then sizeN n else 0 : Nat)) ∧ w = w' := by
  by_cases h : n ≤ 4080
  · rw [if_pos h]; exact R4Size_ok w n h
  · rw [if_neg h]; exact R4Size_out w n (.inr (by omega))

/-- The length that a right head tells, of bytes that go on as far; -1: there is none. -/
def headI (b : List UInt8) : Int := match headLen b with
  | none => -1
  | some n => if b.length < sizeN n then -1 else n

theorem sub_not (a : UInt8) : (255 : Int) - (a.toNat : Int) = ((~~~a).toNat : Int) := by
  have h1 : (~~~a).toNat = 255 - a.toNat := by simp [UInt8.toNat_not]
  have := a.toNat_lt
  omega

theorem not_comm8 (a c : UInt8) : a = ~~~c ↔ c = ~~~a := by
  constructor
  · rintro rfl; simp
  · rintro rfl; simp

theorem headI_short (b : List UInt8) (h : b.length < 4) : headI b = -1 := by
  match b, h with
  | [], _ => rfl
  | [_], _ => rfl
  | [_, _], _ => rfl
  | [_, _, _], _ => rfl
  | _ :: _ :: _ :: _ :: r, h => simp at h; omega

theorem headI_four (a b c d : UInt8) (r : List UInt8) : headI (a :: b :: c :: d :: r) =
    if c = ~~~a ∧ d = ~~~b then (if a.toNat * 256 + b.toNat ≤ 4080 then (if r.length + 4 < sizeN (a.toNat * 256 + b.toNat) then -1 else ((a.toNat * 256 + b.toNat : Nat) : Int)) else -1) else -1 := by
  have e2 : headLen (a :: b :: c :: d :: r) = if a = ~~~c ∧ b = ~~~d ∧ a.toNat * 256 + b.toNat ≤ 4080 then some (a.toNat * 256 + b.toNat) else none := rfl
  have e3 : (a :: b :: c :: d :: r).length = r.length + 4 := by simp
  unfold headI
  rw [e2, e3]
  by_cases h1 : c = ~~~a ∧ d = ~~~b
  · have h2 : a = ~~~c ∧ b = ~~~d := ⟨(not_comm8 a c).2 h1.1, (not_comm8 b d).2 h1.2⟩
    rw [if_pos h1]
    by_cases h3 : a.toNat * 256 + b.toNat ≤ 4080
    · rw [if_pos h3, if_pos ⟨h2.1, h2.2, h3⟩]
    · rw [if_neg h3, if_neg (fun h => h3 h.2.2)]
  · rw [if_neg h1, if_neg (fun h => h1 ⟨(not_comm8 a c).1 h.1, (not_comm8 b d).1 h.2.1⟩)]

end Go.Proofs.YtlnmbfddhdjioaaGreat
