/-
  Contracts of the document's own record (lightshipref04): Size, nothing, head.
  Contracts of the document's own record (lightshipref04): head.
-/
import Derived.Test.YtdcfcljgennipaaRecE
namespace Go.Proofs.Ytdcfcljgennipaa
open Go.RowKit

set_option maxRecDepth 100000 in
set_option maxHeartbeats 1000000 in
theorem R4Size_ok (w : World) (n : Nat) (hn : n ≤ 4080) :
    Calls Try.prog 20 #[.int .i64 n] w fun e w' => e = .returned (.int .i64 (sizeN n)) ∧ w = w' := by
  have h1 := fillN_ge n
  have h2 := fillN_lt n
  have h3 := fillN_mod n
  have hs : (sizeN n : Int) = (fillN n : Int) + 12 := by unfold sizeN; omega
  rw [hs]
  generalize fillN n = f at *
  clear hs
  go_enter Try.func20, Try.ntmps20
  go_wp2
  go_loop [0] (fun x => ∃ k : Nat, n ≤ k ∧ k ≤ f ∧ x = .int .i64 k) (fun x => f - (intOf x).toNat)
  case atStart => exact ⟨n, Nat.le_refl _, h1, rfl⟩
  case round =>
    obtain ⟨k, hk1, hk2, rfl⟩ := hrel
    obtain ⟨r, hr⟩ : ∃ r, r = k % 4 := ⟨_, rfl⟩
    have e1 : (k : Int) % 4 = (r : Int) := by omega
    have e2 : (k : Int).tmod 4 = (r : Int) := by rw [Int.tmod_eq_emod_of_nonneg (by omega)]; exact e1
    have hk4 : k ≤ 5000 := by omega
    by_cases hlt : k < f
    · have hne : (((r : Int) != 0) : Bool) = true := by simp; omega
      have HK1 := Lib.hid hk1
      clear hr hk1 h1 h2 h3 hk2
      go_wp2
      go_round
      case rel => exact ⟨k + 1, by have := HK1.out; omega, by omega, by go_num⟩
      case measure => simp [intOf]; omega
    · obtain rfl : k = f := by omega
      have he : ((0 : Int) != 0) = false := rfl
      obtain rfl : r = 0 := by omega
      clear hr h1 h2 h3 hk1 hk2 hlt
      go_wp2
      go_ret
      exact ⟨rfl, rfl⟩

set_option maxRecDepth 100000 in
theorem R4Size_out (w : World) (n : Int) (hn : n < 0 ∨ 4080 < n) :
    Calls Try.prog 20 #[.int .i64 n] w fun e w' => e = .returned (.int .i64 0) ∧ w = w' := by
  rcases hn with h | h
  · go_enter Try.func20, Try.ntmps20
    go_wp2
    go_ret
    exact ⟨rfl, rfl⟩
  · by_cases h0 : n < 0
    · omega
    · go_enter Try.func20, Try.ntmps20
      go_wp2
      go_ret
      exact ⟨rfl, rfl⟩

theorem blank_take_succ (b : List UInt8) (k : Nat) (c : UInt8) (hc : b[k]? = some c) (h : blank (b.take k)) (h2 : c = 255) : blank (b.take (k + 1)) := by
  intro x hx
  rw [List.take_add_one, hc] at hx
  simp at hx
  rcases hx with h' | h'
  · exact h x h'
  · rw [h', h2]

theorem writtenN_zero (b : List UInt8) : writtenN b = 0 ↔ blank b := by
  have := blank_drop b 0
  rw [List.drop_zero] at this
  rw [this]; omega

set_option maxRecDepth 100000 in
set_option maxHeartbeats 1000000 in
theorem R4nothing_any (w : World) (v : Value) (b : List UInt8) (M : Nat) (h : Reads w v b M) (hl : b.length ≤ 100000) :
    Calls Try.prog 46 #[v] w fun e w' => e = .returned (.bool (writtenN b == 0)) ∧ w = w' := by
  obtain ⟨r, hr⟩ : ∃ r, r = (writtenN b == 0) := ⟨_, rfl⟩
  have HR := Lib.hid hr
  rw [← hr]
  clear hr
  obtain ⟨a, cap, rfl, hcap⟩ := h.shape
  have HV := Lib.hid h
  obtain ⟨n, hn⟩ : ∃ n, n = b.length := ⟨_, rfl⟩
  have HN := Lib.hid hn
  rw [← hn] at HV hl hcap ⊢
  clear hn h
  go_enter Try.func46, Try.ntmps46
  go_wp2
  go_loop [3] (fun x => ∃ k : Nat, k ≤ n ∧ x = .int .i64 k ∧ Hid (blank (b.take k))) (fun x => n - (intOf x).toNat)
  case atStart => exact ⟨0, Nat.zero_le _, rfl, Lib.hid (by intro x hx; simp at hx)⟩
  case round =>
    obtain ⟨k, hk, rfl, HB⟩ := hrel
    by_cases hlt : k < n
    · have hkb : k < b.length := by rw [← HN.out]; exact hlt
      have hc : b[k]? = some (b[k]) := List.getElem?_eq_getElem hkb
      have hne : b ≠ [] := by intro e; rw [e] at hkb; simp at hkb
      obtain ⟨off, cap', hv, _, hcell⟩ := (show Reads w (.slice a b.length cap) b M by rw [← HN.out]; exact HV.out).at hne
      obtain ⟨rfl, rfl⟩ : a = some ⟨M, off, none⟩ ∧ cap = cap' := by simp at hv; exact hv
      have c0 := hcell k _ hc
      have HC := Lib.hid hc
      generalize b[k] = c at *
      clear hcell hv hne hc
      unfold bv at c0
      have hki : (k : Int) < (n : Int) := by omega
      by_cases h255 : c = 255
      · subst h255
        have c1 := c0.trans (show some (Value.int .u8 (((255 : UInt8).toNat : Nat) : Int)) = some (.int .u8 255) from rfl)
        clear c0
        go_wp2
        go_round
        case rel => exact ⟨k + 1, by omega, by go_num, Lib.hid (blank_take_succ b k _ HC.out HB.out rfl)⟩
        case measure => simp [intOf]; omega
      · have hcn : (((c.toNat : Int) != 255) : Bool) = true := by
          have : c.toNat ≠ 255 := fun e => h255 (UInt8.toNat_inj.1 e)
          simp; omega
        have hci : ¬ (c.toNat : Int) = 255 := by
          have : c.toNat ≠ 255 := fun e => h255 (UInt8.toNat_inj.1 e)
          omega
        go_wp2
        go_ret
        refine ⟨?_, rfl⟩
        rw [HR.out]
        have : writtenN b ≠ 0 := fun e => h255 ((writtenN_zero b).1 e c (List.mem_iff_getElem?.2 ⟨k, HC.out⟩))
        simpa using this
    · obtain rfl : k = n := by omega
      go_wp2
      go_ret
      refine ⟨?_, rfl⟩
      have hb := HB.out
      rw [HN.out, List.take_length] at hb
      rw [HR.out, (writtenN_zero b).2 hb]
      rfl
end Go.Proofs.Ytdcfcljgennipaa

namespace Go.Proofs.Ytdcfcljgennipaa
open Go.RowKit

theorem R4Size_nat (w : World) (n : Nat) :
    Calls Try.prog 20 #[.int .i64 n] w fun e w' => e = .returned (.int .i64 (if n ≤ 4080 then sizeN n else 0 : Nat)) ∧ w = w' := by
  by_cases h : n ≤ 4080
  · rw [if_pos h]; exact R4Size_ok w n h
  · rw [if_neg h]; exact R4Size_out w n (.inr (by omega))

/-- The length that a right head tells, of bytes that go on as far; -1: there is none. -/
def headI (b : List UInt8) : Int := match headLen b with
  | none => -1
  | some n => if b.length < sizeN n then -1 else n

theorem sub_not (a : UInt8) : (255 : Int) - (a.toNat : Int) = ((~~~a).toNat : Int) := by
  have h1 : (~~~a).toNat = 255 - a.toNat := by simp [UInt8.toNat_not]
  have := a.toNat_lt
  omega

theorem not_comm8 (a c : UInt8) : a = ~~~c ↔ c = ~~~a := by
  constructor
  · rintro rfl; simp
  · rintro rfl; simp

theorem headI_short (b : List UInt8) (h : b.length < 4) : headI b = -1 := by
  match b, h with
  | [], _ => rfl
  | [_], _ => rfl
  | [_, _], _ => rfl
  | [_, _, _], _ => rfl
  | _ :: _ :: _ :: _ :: r, h => simp at h; omega

theorem headI_four (a b c d : UInt8) (r : List UInt8) : headI (a :: b :: c :: d :: r) =
    if c = ~~~a ∧ d = ~~~b then (if a.toNat * 256 + b.toNat ≤ 4080 then (if r.length + 4 < sizeN (a.toNat * 256 + b.toNat) then -1 else ((a.toNat * 256 + b.toNat : Nat) : Int)) else -1) else -1 := by
  have e2 : headLen (a :: b :: c :: d :: r) = if a = ~~~c ∧ b = ~~~d ∧ a.toNat * 256 + b.toNat ≤ 4080 then some (a.toNat * 256 + b.toNat) else none := rfl
  have e3 : (a :: b :: c :: d :: r).length = r.length + 4 := by simp
  unfold headI
  rw [e2, e3]
  by_cases h1 : c = ~~~a ∧ d = ~~~b
  · have h2 : a = ~~~c ∧ b = ~~~d := ⟨(not_comm8 a c).2 h1.1, (not_comm8 b d).2 h1.2⟩
    rw [if_pos h1]
    by_cases h3 : a.toNat * 256 + b.toNat ≤ 4080
    · rw [if_pos h3, if_pos ⟨h2.1, h2.2, h3⟩]
    · rw [if_neg h3, if_neg (fun h => h3 h.2.2)]
  · rw [if_neg h1, if_neg (fun h => h1 ⟨(not_comm8 a c).1 h.1, (not_comm8 b d).1 h.2.1⟩)]

set_option maxHeartbeats 400000 in
theorem R4head_short (w : World) (v : Value) (l : List UInt8) (M : Nat) (h : Reads w v l M) (hl : l.length < 4) :
    Calls Try.prog 49 #[v] w fun e w' => e = .returned (.int .i64 (-1)) ∧ Keeps [] w w' := by
  obtain ⟨a, cap, rfl, _⟩ := h.shape
  have hl' : decide ((l.length : Int) < 4) = true := by simp; omega
  clear h
  generalize l.length = n at *
  go_enter Try.func49, Try.ntmps49
  go_wp2
  go_quiet (fail)
  go_wp2
  go_ret
  exact ⟨rfl, Keeps.drewN _ _ _⟩

set_option maxRecDepth 100000 in
set_option maxHeartbeats 1000000 in
theorem R4head_four (w : World) (v : Value) (a b c d : UInt8) (r : List UInt8) (M : Nat) (h : Reads w v (a :: b :: c :: d :: r) M) (hl : r.length ≤ 100000000) :
    Calls Try.prog 49 #[v] w fun e w' => e = .returned (.int .i64 (headI (a :: b :: c :: d :: r))) ∧ Keeps [] w w' := by
  obtain ⟨off, cap, rfl, hcap, hc⟩ := h.at (by simp)
  have c0 := hc 0 a rfl
  have c1 := hc 1 b rfl
  have c2 := hc 2 c rfl
  have c3 := hc 3 d rfl
  rw [Nat.add_zero] at c0
  obtain ⟨hv, hhv⟩ : ∃ hv, hv = headI (a :: b :: c :: d :: r) := ⟨_, rfl⟩
  have HH := Lib.hid (hhv.trans (headI_four a b c d r))
  rw [← hhv]
  have n1 := sub_not a
  have n2 := sub_not b
  obtain ⟨x, hx⟩ : ∃ x, ~~~a = x := ⟨_, rfl⟩
  obtain ⟨y, hy⟩ : ∃ y, ~~~b = y := ⟨_, rfl⟩
  rw [hx] at n1 HH
  rw [hy] at n2 HH
  have xb : IntKind.u8.wrap (x.toNat : Int) = x.toNat := IntWalk.u8_in _ (by have := x.toNat_lt; omega)
  have yb : IntKind.u8.wrap (y.toNat : Int) = y.toNat := IntWalk.u8_in _ (by have := y.toNat_lt; omega)
  have xm : (x.toNat : Int) % 256 = x.toNat := by have := x.toNat_lt; omega
  have ym : (y.toNat : Int) % 256 = y.toNat := by have := y.toNat_lt; omega
  clear hx hy hhv
  have hlen : (a :: b :: c :: d :: r).length = r.length + 4 := by simp
  have hl4 : decide (((a :: b :: c :: d :: r).length : Int) < 4) = false := by rw [hlen]; simp; omega
  have l0 : (0 : Int) < ((a :: b :: c :: d :: r).length : Int) := by rw [hlen]; omega
  have l1 : (1 : Int) < ((a :: b :: c :: d :: r).length : Int) := by rw [hlen]; omega
  have l2 : (2 : Int) < ((a :: b :: c :: d :: r).length : Int) := by rw [hlen]; omega
  have l3 : (3 : Int) < ((a :: b :: c :: d :: r).length : Int) := by rw [hlen]; omega
  have m0 : 0 < (a :: b :: c :: d :: r).length := by rw [hlen]; omega
  have hal := a.toNat_lt
  have hbl := b.toNat_lt
  have wa : IntKind.i64.wrap (a.toNat : Int) = a.toNat := IntWalk.i64_in _ (by omega)
  have wb : IntKind.i64.wrap (b.toNat : Int) = b.toNat := IntWalk.i64_in _ (by omega)
  have wc : IntKind.i64.wrap ((a.toNat : Int) * 256) = (a.toNat : Int) * 256 := IntWalk.i64_in _ (by omega)
  obtain ⟨m, hm⟩ : ∃ m, m = a.toNat * 256 + b.toNat := ⟨_, rfl⟩
  have hms : (a.toNat : Int) * 256 + (b.toNat : Int) = (m : Int) := by omega
  have wm : IntKind.i64.wrap (m : Int) = (m : Int) := IntWalk.i64_in _ (by omega)
  have HSZ := Lib.hid (fun w => R4Size_nat w m)
  rw [← hm] at HH
  have hm6 : m ≤ 65535 := by omega
  have hlr : r.length + 4 ≤ 100000004 := by omega
  unfold bv at c0 c1 c2 c3
  rw [hlen] at *
  have HM := Lib.hid hm
  clear h hc hlen hm hl
  generalize r.length + 4 = n at *
  by_cases h1 : c = x
  · have e1 := u8_eq c x h1
    by_cases h2 : d = y
    · have e2 := u8_eq d y h2
      have hh := HH.out
      rw [if_pos ⟨h1, h2⟩] at hh
      by_cases h3 : m ≤ 4080
      · rw [if_pos h3] at hh
        have hsz : 12 ≤ sizeN m := by unfold sizeN; omega
        have hsz2 : sizeN m ≤ 5000 := by have := fillN_lt m; unfold sizeN; omega
        have HS2 := HSZ.out
        rw [if_pos h3] at HS2
        generalize sizeN m = z at *
        have HS3 := Lib.hid HS2
        have z0 : (((z : Int) == 0) : Bool) = false := by simp; omega
        clear HS2 HSZ HH HM h1 h2
        by_cases h4 : n < z
        · rw [if_pos h4] at hh
          subst hh
          have h4' : decide ((n : Int) < (z : Int)) = true := by simp; omega
          go_enter Try.func49, Try.ntmps49
          go_wp2
          go_quiet (fail)
          go_wp2
          go_quiet (fail)
          go_wp2_with (go_at_call 20; refine (HS3.out _).mono ?_; rintro e w' ⟨rfl, rfl⟩)
          go_ret
          exact ⟨rfl, Keeps.drewN _ _ _⟩
        · rw [if_neg h4] at hh
          subst hh
          have h4' : decide ((n : Int) < (z : Int)) = false := by simp; omega
          go_enter Try.func49, Try.ntmps49
          go_wp2
          go_quiet (fail)
          go_wp2
          go_quiet (fail)
          go_wp2_with (go_at_call 20; refine (HS3.out _).mono ?_; rintro e w' ⟨rfl, rfl⟩)
          go_ret
          exact ⟨rfl, Keeps.drewN _ _ _⟩
      · rw [if_neg h3] at hh
        subst hh
        have HS2 := HSZ.out
        rw [if_neg h3] at HS2
        have HS3 := Lib.hid HS2
        clear HS2 HSZ HH HM h1 h2
        go_enter Try.func49, Try.ntmps49
        go_wp2
        go_quiet (fail)
        go_wp2
        go_quiet (fail)
        go_wp2_with (go_at_call 20; refine (HS3.out _).mono ?_; rintro e w' ⟨rfl, rfl⟩)
        go_ret
        exact ⟨rfl, Keeps.drewN _ _ _⟩
    · have e2 := u8_ne d y h2
      have hh := HH.out
      rw [if_neg (fun h => h2 h.2)] at hh
      subst hh
      clear h1 h2 HH HSZ HM
      go_enter Try.func49, Try.ntmps49
      go_wp2
      go_quiet (fail)
      go_wp2
      go_ret
      exact ⟨rfl, Keeps.drewN _ _ _⟩
  · have e1 := u8_ne c x h1
    have hh := HH.out
    rw [if_neg (fun h => h1 h.1)] at hh
    subst hh
    clear h1 HH HSZ HM
    go_enter Try.func49, Try.ntmps49
    go_wp2
    go_quiet (fail)
    go_wp2
    go_ret
    exact ⟨rfl, Keeps.drewN _ _ _⟩

theorem R4head_any (w : World) (v : Value) (b : List UInt8) (M : Nat) (h : Reads w v b M) (hl : b.length ≤ 100000) :
    Calls Try.prog 49 #[v] w fun e w' => e = .returned (.int .i64 (headI b)) ∧ Keeps [] w w' := by
  match b, h, hl with
  | [], h, _ => rw [headI_short _ (by simp)]; exact R4head_short w v _ M h (by simp)
  | [_], h, _ => rw [headI_short _ (by simp)]; exact R4head_short w v _ M h (by simp)
  | [_, _], h, _ => rw [headI_short _ (by simp)]; exact R4head_short w v _ M h (by simp)
  | [_, _, _], h, _ => rw [headI_short _ (by simp)]; exact R4head_short w v _ M h (by simp)
  | a :: b :: c :: d :: r, h, hl => exact R4head_four w v a b c d r M h (by simp at hl; omega)
end Go.Proofs.Ytdcfcljgennipaa
