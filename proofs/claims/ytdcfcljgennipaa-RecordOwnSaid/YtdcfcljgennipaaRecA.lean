/-
  Contracts of record: filled, Size, headOf, lengthOf.
-/
import Derived.Test.YtdcfcljgennipaaOwn
import Derived.Test.YtdcfcljgennipaaRecM
namespace Go.Proofs.Ytdcfcljgennipaa
open Go.RowKit

theorem ret_int {k : IntKind} {a b : Int} (h : a = b) : Ending.returned (.int k a) = .returned (.int k b) := by rw [h]

theorem ret_pair {k : IntKind} {a b : Int} {p q : Bool} (h : a = b) (hq : p = q) : Ending.returned (.tuple #[.int k a, .bool p]) = .returned (.tuple #[.int k b, .bool q]) := by rw [h, hq]

set_option maxHeartbeats 400000 in
theorem filled_any (w : World) (n : Nat) (hn : n ≤ 1000000) :
    Calls Try.prog 51 #[.int .i64 n] w fun e w' => e = .returned (.int .i64 (fillN n)) ∧ w = w' := by
  have e : (fillN n : Int) = ((n : Int) + 3) / 4 * 4 := by unfold fillN; omega
  rw [e]
  clear e
  go_enter Try.func51, Try.ntmps51
  go_wp2
  go_ret
  exact ⟨ret_int (by omega), rfl⟩

set_option maxHeartbeats 400000 in
theorem Size_ok (w : World) (n : Nat) (hn : n ≤ 4080) :
    Calls Try.prog 19 #[.int .i64 n] w fun e w' => e = .returned (.int .i64 (sizeN n)) ∧ w = w' := by
  have e : (sizeN n : Int) = 4 + (fillN n : Int) + 4 + 4 := by unfold sizeN; omega
  rw [e]
  have h1 := fillN_lt n
  have h2 : (fillN n : Int) ≤ 5000 := by omega
  have h3 : (0 : Int) ≤ (fillN n : Int) := by omega
  clear e h1
  have hf := filled_any w n (by omega)
  generalize (fillN n : Int) = f at *
  go_enter Try.func19, Try.ntmps19
  go_wp2_with (go_at_call 51; refine hf.mono ?_; rintro e w' ⟨rfl, rfl⟩)
  go_ret
  exact ⟨by congr 2, rfl⟩

set_option maxHeartbeats 400000 in
theorem Size_out (w : World) (n : Int) (hn : n < 0 ∨ 4080 < n) :
    Calls Try.prog 19 #[.int .i64 n] w fun e w' => e = .returned (.int .i64 0) ∧ w = w' := by
  by_cases h : n < 0
  · go_enter Try.func19, Try.ntmps19
    go_wp2
    go_ret
    exact ⟨rfl, rfl⟩
  · have h4 : 4080 < n := by omega
    go_enter Try.func19, Try.ntmps19
    go_wp2
    go_ret
    exact ⟨rfl, rfl⟩

theorem bits_not8 (c : UInt8) : bits .xor .u8 255 (c.toNat : Int) = ((~~~c).toNat : Int) := by
  have h : ∀ c : Fin 256, bits .xor .u8 255 (c.val : Int) = ((255 - c.val : Nat) : Int) := by decide +kernel
  have h2 : (~~~c).toNat = 255 - c.toNat := by
    rw [UInt8.toNat_not]
    simp [UInt8.size]
  have := h ⟨c.toNat, c.toNat_lt⟩
  rw [h2]; exact this

theorem byte_wrap (n : Nat) : IntKind.u8.wrap (n : Int) = ((UInt8.ofNat n).toNat : Int) := by
  show (n : Int) % 256 = _
  simp

theorem byte_mod8 (n : Nat) : (n : Int) % 256 = ((UInt8.ofNat n).toNat : Int) := by simp

set_option maxHeartbeats 400000 in
theorem headOf_any (w : World) (n : Nat) :
    Calls Try.prog 83 #[.int .i64 n] w fun e w' => e = .returned (.slice (some ⟨w.heap.size, 0, none⟩) 4 4) ∧ w.alloc (.cells ((headB n).map bv).toArray 5) = w' := by
  have n1 := show bits .xor .u8 IntKind.u8.max _ = _ from bits_not8 (UInt8.ofNat (n / 256))
  have n2 := show bits .xor .u8 IntKind.u8.max _ = _ from bits_not8 (UInt8.ofNat n)
  have b1 := byte_wrap (n / 256)
  have b2 := byte_wrap n
  have d1 : (n : Int) / (2 : Int) ^ 8 = ((n / 256 : Nat) : Int) := by omega
  have d2 : (n : Int) / (256 : Int) = ((n / 256 : Nat) : Int) := by omega
  unfold headB
  generalize UInt8.ofNat (n / 256) = hh at *
  generalize UInt8.ofNat n = l at *
  generalize n / 256 = q at *
  go_enter Try.func83, Try.ntmps83
  go_wp2
  all_goals first | (exfalso; have hs : IntKind.u8.signed = true := by assumption; cases hs) | skip
  go_ret
  exact ⟨rfl, by simp [bv]⟩

/-- What lengthOf answers. -/
def lenOf : List UInt8 → Nat × Bool
  | a :: b :: c :: d :: _ => if a = ~~~c ∧ b = ~~~d then (a.toNat * 256 + b.toNat, decide (a.toNat * 256 + b.toNat ≤ 4080)) else (0, false)
  | _ => (0, false)

theorem u8_ne (a b : UInt8) (h : a ≠ b) : (((a.toNat : Int) != (b.toNat : Int)) : Bool) = true := by
  simp only [bne_iff_ne, ne_eq]
  intro e
  apply h
  apply UInt8.toNat_inj.1
  omega

theorem u8_eq (a b : UInt8) (h : a = b) : (((a.toNat : Int) != (b.toNat : Int)) : Bool) = false := by
  subst h; simp

set_option maxHeartbeats 400000 in
theorem lengthOf_short (w : World) (v : Value) (l : List UInt8) (M : Nat) (h : Reads w v l M) (hl : l.length < 4) :
    Calls Try.prog 78 #[v] w fun e w' => e = .returned (.tuple #[.int .i64 0, .bool false]) ∧ Keeps [] w w' := by
  obtain ⟨a, cap, rfl, _⟩ := h.shape
  have hl' : decide ((l.length : Int) < 4) = true := by simp; omega
  clear h
  generalize l.length = n at *
  go_enter Try.func78, Try.ntmps78
  go_wp2
  go_quiet (fail)
  go_wp2
  go_ret2
  exact ⟨rfl, Keeps.drewN _ _ _⟩

theorem or_high (a b : Nat) (ha : a < 256) (hb : b < 256) : bits .or .i64 ((a : Int) * 256) (b : Int) = ((a * 256 + b : Nat) : Int) := by
  have h : a * 256 + b = (a * 256) ||| b := by
    have := Nat.shiftLeft_add_eq_or_of_lt (i := 8) (b := b) hb a
    rw [Nat.shiftLeft_eq] at this
    exact this
  have e1 : BitVec.ofInt IntKind.i64.bits ((a : Int) * 256) = BitVec.ofNat 64 (a * 256) := by
    rw [show (a : Int) * 256 = ((a * 256 : Nat) : Int) by omega]
    exact BitVec.ofInt_natCast _ _
  have e2 : BitVec.ofInt IntKind.i64.bits (b : Int) = BitVec.ofNat 64 b := BitVec.ofInt_natCast _ _
  unfold bits
  simp only [e1, e2]
  show IntKind.i64.wrap ((BitVec.ofNat 64 (a * 256) ||| BitVec.ofNat 64 b : BitVec 64).toNat : Int) = _
  rw [← BitVec.ofNat_or, ← h, BitVec.toNat_ofNat, Nat.mod_eq_of_lt (by show _ < 18446744073709551616; omega)]
  exact IntWalk.i64_in _ (by omega)

set_option maxHeartbeats 400000 in
theorem lengthOf_four (w : World) (v : Value) (a b c d : UInt8) (r : List UInt8) (M : Nat) (h : Reads w v (a :: b :: c :: d :: r) M) (hl : r.length ≤ 100000000) :
    Calls Try.prog 78 #[v] w fun e w' => e = .returned (.tuple #[.int .i64 (lenOf (a :: b :: c :: d :: r)).1, .bool (lenOf (a :: b :: c :: d :: r)).2]) ∧ Keeps [] w w' := by
  obtain ⟨off, cap, rfl, hcap, hc⟩ := h.at (by simp)
  have c0 := hc 0 a rfl
  have c1 := hc 1 b rfl
  have c2 := hc 2 c rfl
  have c3 := hc 3 d rfl
  rw [Nat.add_zero] at c0
  have n1 := show bits .xor .u8 IntKind.u8.max _ = _ from bits_not8 c
  have n2 := show bits .xor .u8 IntKind.u8.max _ = _ from bits_not8 d
  obtain ⟨x, hx⟩ : ∃ x, ~~~c = x := ⟨_, rfl⟩
  obtain ⟨y, hy⟩ : ∃ y, ~~~d = y := ⟨_, rfl⟩
  rw [hx] at n1
  rw [hy] at n2
  have HL : Hid (lenOf (a :: b :: c :: d :: r) = if a = x ∧ b = y then (a.toNat * 256 + b.toNat, decide (a.toNat * 256 + b.toNat ≤ 4080)) else (0, false)) := Lib.hid (by simp only [lenOf, hx, hy])
  clear hx hy
  have hlen : (a :: b :: c :: d :: r).length = r.length + 4 := by simp
  have hsg : IntKind.u8.signed = false := rfl
  have hl4 : decide (((a :: b :: c :: d :: r).length : Int) < 4) = false := by rw [hlen]; simp; omega
  have l0 : (0 : Int) < ((a :: b :: c :: d :: r).length : Int) := by rw [hlen]; omega
  have l1 : (1 : Int) < ((a :: b :: c :: d :: r).length : Int) := by rw [hlen]; omega
  have l2 : (2 : Int) < ((a :: b :: c :: d :: r).length : Int) := by rw [hlen]; omega
  have l3 : (3 : Int) < ((a :: b :: c :: d :: r).length : Int) := by rw [hlen]; omega
  have m0 : 0 < (a :: b :: c :: d :: r).length := by rw [hlen]; omega
  have ho := or_high a.toNat b.toNat a.toNat_lt b.toNat_lt
  have wa : IntKind.i64.wrap (a.toNat : Int) = a.toNat := IntWalk.i64_in _ (by have := a.toNat_lt; omega)
  have wb : IntKind.i64.wrap (b.toNat : Int) = b.toNat := IntWalk.i64_in _ (by have := b.toNat_lt; omega)
  have wc : IntKind.i64.wrap ((a.toNat : Int) * 256) = (a.toNat : Int) * 256 := IntWalk.i64_in _ (by have := a.toNat_lt; omega)
  unfold bv at c0 c1 c2 c3
  clear h hc hlen
  generalize (a :: b :: c :: d :: r).length = n at *
  by_cases h1 : a = x
  · have e1 := u8_eq a x h1
    by_cases h2 : b = y
    · have e2 := u8_eq b y h2
      have hm : lenOf (a :: b :: c :: d :: r) = (a.toNat * 256 + b.toNat, decide (a.toNat * 256 + b.toNat ≤ 4080)) := by
        rw [HL.out, if_pos ⟨h1, h2⟩]
      rw [hm]
      clear hm h1 h2 HL
      go_enter Try.func78, Try.ntmps78
      go_wp2
      go_quiet (fail)
      all_goals first | (exfalso; have hs : IntKind.u8.signed = true := by assumption; cases hs) | skip
      go_wp2
      go_quiet (fail)
      go_wp2
      go_ret2
      exact ⟨ret_pair (by omega) (decide_eq_decide.2 (by omega)), Keeps.drewN _ _ _⟩
    · have e2 := u8_ne b y h2
      have hm : lenOf (a :: b :: c :: d :: r) = (0, false) := by
        rw [HL.out, if_neg (fun h => h2 h.2)]
      rw [hm]
      clear hm h1 h2 HL
      go_enter Try.func78, Try.ntmps78
      go_wp2
      go_quiet (fail)
      all_goals first | (exfalso; have hs : IntKind.u8.signed = true := by assumption; cases hs) | skip
      go_wp2
      go_ret2
      exact ⟨rfl, Keeps.drewN _ _ _⟩
  · have e1 := u8_ne a x h1
    have hm : lenOf (a :: b :: c :: d :: r) = (0, false) := by
      rw [HL.out, if_neg (fun h => h1 h.1)]
    rw [hm]
    clear hm h1 HL
    go_enter Try.func78, Try.ntmps78
    go_wp2
    go_quiet (fail)
    all_goals first | (exfalso; have hs : IntKind.u8.signed = true := by assumption; cases hs) | skip
    go_wp2
    go_ret2
    exact ⟨rfl, Keeps.drewN _ _ _⟩
end Go.Proofs.Ytdcfcljgennipaa
