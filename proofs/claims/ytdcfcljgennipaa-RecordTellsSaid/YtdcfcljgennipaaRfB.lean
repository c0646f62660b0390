/-
  Contracts of the document's own record (lightshipref04): head.
-/
import Derived.Test.YtdcfcljgennipaaRfA
namespace Go.Proofs.Ytdcfcljgennipaa
open Go.RowKit

theorem R4Size_nat (w : World) (n : Nat) :
    Calls Try.prog 20 #[.int .i64 n] w fun e w' => e = .returned (.int .i64 (if n ≤ 4080 then sizeN n else 0 : Nat)) ∧ w = w' := by
  by_cases h : n ≤ 4080
  · rw [if_pos h]; exact R4Size_ok w n h
  · rw [if_neg h]; exact R4Size_out w n (.inr (by omega))

/-- The length that a right head tells, of bytes that go on as far; -1: there is none. -/
def headI (b : List UInt8) : Int := match headLen b with
  | none => -1
  | some n => if b.length < sizeN n then -1 else n

theorem sub_not (a : UInt8) : (255 : Int) - (a.toNat : Int) = ((~~~a).toNat : Int) := by
  have h1 : (~~~a).toNat = 255 - a.toNat := by simp [UInt8.toNat_not]
  have := a.toNat_lt
  omega

theorem not_comm8 (a c : UInt8) : a = ~~~c ↔ c = ~~~a := by
  constructor
  · rintro rfl; simp
  · rintro rfl; simp

theorem headI_short (b : List UInt8) (h : b.length < 4) : headI b = -1 := by
  match b, h with
  | [], _ => rfl
  | [_], _ => rfl
  | [_, _], _ => rfl
  | [_, _, _], _ => rfl
  | _ :: _ :: _ :: _ :: r, h => simp at h; omega

theorem headI_four (a b c d : UInt8) (r : List UInt8) : headI (a :: b :: c :: d :: r) =
    if c = ~~~a ∧ d = ~~~b then (if a.toNat * 256 + b.toNat ≤ 4080 then (if r.length + 4 < sizeN (a.toNat * 256 + b.toNat) then -1 else ((a.toNat * 256 + b.toNat : Nat) : Int)) else -1) else -1 := by
  have e2 : headLen (a :: b :: c :: d :: r) = if a = ~~~c ∧ b = ~~~d ∧ a.toNat * 256 + b.toNat ≤ 4080 then some (a.toNat * 256 + b.toNat) else none := rfl
  have e3 : (a :: b :: c :: d :: r).length = r.length + 4 := by simp
  unfold headI
  rw [e2, e3]
  by_cases h1 : c = ~~~a ∧ d = ~~~b
  · have h2 : a = ~~~c ∧ b = ~~~d := ⟨(not_comm8 a c).2 h1.1, (not_comm8 b d).2 h1.2⟩
    rw [if_pos h1]
    by_cases h3 : a.toNat * 256 + b.toNat ≤ 4080
    · rw [if_pos h3, if_pos ⟨h2.1, h2.2, h3⟩]
    · rw [if_neg h3, if_neg (fun h => h3 h.2.2)]
  · rw [if_neg h1, if_neg (fun h => h1 ⟨(not_comm8 a c).1 h.1, (not_comm8 b d).1 h.2.1⟩)]

set_option maxHeartbeats 400000 in
theorem R4head_short (w : World) (v : Value) (l : List UInt8) (M : Nat) (h : Reads w v l M) (hl : l.length < 4) :
    Calls Try.prog 49 #[v] w fun e w' => e = .returned (.int .i64 (-1)) ∧ Keeps [] w w' := by
  obtain ⟨a, cap, rfl, _⟩ := h.shape
  have hl' : decide ((l.length : Int) < 4) = true := by simp; omega
  clear h
  generalize l.length = n at *
  go_enter Try.func49, Try.ntmps49
  go_wp2
  go_quiet (fail)
  go_wp2
  go_ret
  exact ⟨rfl, Keeps.drewN _ _ _⟩

set_option maxRecDepth 100000 in
set_option maxHeartbeats 1000000 in
theorem R4head_four (w : World) (v : Value) (a b c d : UInt8) (r : List UInt8) (M : Nat) (h : Reads w v (a :: b :: c :: d :: r) M) (hl : r.length ≤ 100000000) :
    Calls Try.prog 49 #[v] w fun e w' => e = .returned (.int .i64 (headI (a :: b :: c :: d :: r))) ∧ Keeps [] w w' := by
  obtain ⟨off, cap, rfl, hcap, hc⟩ := h.at (by simp)
  have c0 := hc 0 a rfl
  have c1 := hc 1 b rfl
  have c2 := hc 2 c rfl
  have c3 := hc 3 d rfl
  rw [Nat.add_zero] at c0
  obtain ⟨hv, hhv⟩ : ∃ hv, hv = headI (a :: b :: c :: d :: r) := ⟨_, rfl⟩
  have HH := Lib.hid (hhv.trans (headI_four a b c d r))
  rw [← hhv]
  have n1 := sub_not a
  have n2 := sub_not b
  obtain ⟨x, hx⟩ : ∃ x, ~~~a = x := ⟨_, rfl⟩
  obtain ⟨y, hy⟩ : ∃ y, ~~~b = y := ⟨_, rfl⟩
  rw [hx] at n1 HH
  rw [hy] at n2 HH
  have xb : IntKind.u8.wrap (x.toNat : Int) = x.toNat := IntWalk.u8_in _ (by have := x.toNat_lt; omega)
  have yb : IntKind.u8.wrap (y.toNat : Int) = y.toNat := IntWalk.u8_in _ (by have := y.toNat_lt; omega)
  have xm : (x.toNat : Int) % 256 = x.toNat := by have := x.toNat_lt; omega
  have ym : (y.toNat : Int) % 256 = y.toNat := by have := y.toNat_lt; omega
  clear hx hy hhv
  have hlen : (a :: b :: c :: d :: r).length = r.length + 4 := by simp
  have hl4 : decide (((a :: b :: c :: d :: r).length : Int) < 4) = false := by rw [hlen]; simp; omega
  have l0 : (0 : Int) < ((a :: b :: c :: d :: r).length : Int) := by rw [hlen]; omega
  have l1 : (1 : Int) < ((a :: b :: c :: d :: r).length : Int) := by rw [hlen]; omega
  have l2 : (2 : Int) < ((a :: b :: c :: d :: r).length : Int) := by rw [hlen]; omega
  have l3 : (3 : Int) < ((a :: b :: c :: d :: r).length : Int) := by rw [hlen]; omega
  have m0 : 0 < (a :: b :: c :: d :: r).length := by rw [hlen]; omega
  have hal := a.toNat_lt
  have hbl := b.toNat_lt
  have wa : IntKind.i64.wrap (a.toNat : Int) = a.toNat := IntWalk.i64_in _ (by omega)
  have wb : IntKind.i64.wrap (b.toNat : Int) = b.toNat := IntWalk.i64_in _ (by omega)
  have wc : IntKind.i64.wrap ((a.toNat : Int) * 256) = (a.toNat : Int) * 256 := IntWalk.i64_in _ (by omega)
  obtain ⟨m, hm⟩ : ∃ m, m = a.toNat * 256 + b.toNat := ⟨_, rfl⟩
  have hms : (a.toNat : Int) * 256 + (b.toNat : Int) = (m : Int) := by omega
  have wm : IntKind.i64.wrap (m : Int) = (m : Int) := IntWalk.i64_in _ (by omega)
  have HSZ := Lib.hid (fun w => R4Size_nat w m)
  rw [← hm] at HH
  have hm6 : m ≤ 65535 := by omega
  have hlr : r.length + 4 ≤ 100000004 := by omega
  unfold bv at c0 c1 c2 c3
  rw [hlen] at *
  have HM := Lib.hid hm
  clear h hc hlen hm hl
  generalize r.length + 4 = n at *
  by_cases h1 : c = x
  · have e1 := u8_eq c x h1
    by_cases h2 : d = y
    · have e2 := u8_eq d y h2
      have hh := HH.out
      rw [if_pos ⟨h1, h2⟩] at hh
      by_cases h3 : m ≤ 4080
      · rw [if_pos h3] at hh
        have hsz : 12 ≤ sizeN m := by unfold sizeN; omega
        have hsz2 : sizeN m ≤ 5000 := by have := fillN_lt m; unfold sizeN; omega
        have HS2 := HSZ.out
        rw [if_pos h3] at HS2
        generalize sizeN m = z at *
        have HS3 := Lib.hid HS2
        have z0 : (((z : Int) == 0) : Bool) = false := by simp; omega
        clear HS2 HSZ HH HM h1 h2
        by_cases h4 : n < z
        · rw [if_pos h4] at hh
          subst hh
          have h4' : decide ((n : Int) < (z : Int)) = true := by simp; omega
          go_enter Try.func49, Try.ntmps49
          go_wp2
          go_quiet (fail)
          go_wp2
          go_quiet (fail)
          go_wp2_with (go_at_call 20; refine (HS3.out _).mono ?_; rintro e w' ⟨rfl, rfl⟩)
          go_ret
          exact ⟨rfl, Keeps.drewN _ _ _⟩
        · rw [if_neg h4] at hh
          subst hh
          have h4' : decide ((n : Int) < (z : Int)) = false := by simp; omega
          go_enter Try.func49, Try.ntmps49
          go_wp2
          go_quiet (fail)
          go_wp2
          go_quiet (fail)
          go_wp2_with (go_at_call 20; refine (HS3.out _).mono ?_; rintro e w' ⟨rfl, rfl⟩)
          go_ret
          exact ⟨rfl, Keeps.drewN _ _ _⟩
      · rw [if_neg h3] at hh
        subst hh
        have HS2 := HSZ.out
        rw [if_neg h3] at HS2
        have HS3 := Lib.hid HS2
        clear HS2 HSZ HH HM h1 h2
        go_enter Try.func49, Try.ntmps49
        go_wp2
        go_quiet (fail)
        go_wp2
        go_quiet (fail)
        go_wp2_with (go_at_call 20; refine (HS3.out _).mono ?_; rintro e w' ⟨rfl, rfl⟩)
        go_ret
        exact ⟨rfl, Keeps.drewN _ _ _⟩
    · have e2 := u8_ne d y h2
      have hh := HH.out
      rw [if_neg (fun h => h2 h.2)] at hh
      subst hh
      clear h1 h2 HH HSZ HM
      go_enter Try.func49, Try.ntmps49
      go_wp2
      go_quiet (fail)
      go_wp2
      go_ret
      exact ⟨rfl, Keeps.drewN _ _ _⟩
  · have e1 := u8_ne c x h1
    have hh := HH.out
    rw [if_neg (fun h => h1 h.1)] at hh
    subst hh
    clear h1 HH HSZ HM
    go_enter Try.func49, Try.ntmps49
    go_wp2
    go_quiet (fail)
    go_wp2
    go_ret
    exact ⟨rfl, Keeps.drewN _ _ _⟩

theorem R4head_any (w : World) (v : Value) (b : List UInt8) (M : Nat) (h : Reads w v b M) (hl : b.length ≤ 100000) :
    Calls Try.prog 49 #[v] w fun e w' => e = .returned (.int .i64 (headI b)) ∧ Keeps [] w w' := by
  match b, h, hl with
  | [], h, _ => rw [headI_short _ (by simp)]; exact R4head_short w v _ M h (by simp)
  | [_], h, _ => rw [headI_short _ (by simp)]; exact R4head_short w v _ M h (by simp)
  | [_, _], h, _ => rw [headI_short _ (by simp)]; exact R4head_short w v _ M h (by simp)
  | [_, _, _], h, _ => rw [headI_short _ (by simp)]; exact R4head_short w v _ M h (by simp)
  | a :: b :: c :: d :: r, h, hl => exact R4head_four w v a b c d r M h (by simp at hl; omega)
end Go.Proofs.Ytdcfcljgennipaa
