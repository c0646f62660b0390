/-
  Contracts of ring: payloadOf, Head, none, read, numberOf.
-/
import Derived.Test.YtdcfcljgennipaaRingM
import Derived.Test.YtdcfcljgennipaaRecK
namespace Go.Proofs.Ytdcfcljgennipaa
open Go.RowKit

set_option maxHeartbeats 400000 in
theorem payloadOf_any (w : World) (x : BitVec 32) :
    Calls Try.prog 73 #[uv x] w fun e w' => e = .returned (.slice (some ⟨w.heap.size, 0, none⟩) 5 5) ∧ w.alloc (.cells ((headP x).map bv).toArray 5) = w' := by
  have d1 : (x.toNat : Int) / (2 : Int) ^ 24 = ((x.toNat / 2 ^ 24 : Nat) : Int) := by rw [Int.natCast_ediv, Int.natCast_pow]; rfl
  have d2 : (x.toNat : Int) / (2 : Int) ^ 16 = ((x.toNat / 2 ^ 16 : Nat) : Int) := by rw [Int.natCast_ediv, Int.natCast_pow]; rfl
  have d3 : (x.toNat : Int) / (2 : Int) ^ 8 = ((x.toNat / 2 ^ 8 : Nat) : Int) := by rw [Int.natCast_ediv, Int.natCast_pow]; rfl
  have f1 : (x.toNat : Int) / (16777216 : Int) = ((x.toNat / 2 ^ 24 : Nat) : Int) := d1
  have f2 : (x.toNat : Int) / (65536 : Int) = ((x.toNat / 2 ^ 16 : Nat) : Int) := d2
  have f3 : (x.toNat : Int) / (256 : Int) = ((x.toNat / 2 ^ 8 : Nat) : Int) := d3
  have b1 := byte_wrap (x.toNat / 2 ^ 24)
  have b2 := byte_wrap (x.toNat / 2 ^ 16)
  have b3 := byte_wrap (x.toNat / 2 ^ 8)
  have b4 := byte_wrap x.toNat
  obtain ⟨c1, hc1⟩ : ∃ c, c = UInt8.ofNat (x.toNat / 2 ^ 24) := ⟨_, rfl⟩
  obtain ⟨c2, hc2⟩ : ∃ c, c = UInt8.ofNat (x.toNat / 2 ^ 16) := ⟨_, rfl⟩
  obtain ⟨c3, hc3⟩ : ∃ c, c = UInt8.ofNat (x.toNat / 2 ^ 8) := ⟨_, rfl⟩
  obtain ⟨c4, hc4⟩ : ∃ c, c = UInt8.ofNat x.toNat := ⟨_, rfl⟩
  have HB := Lib.hid (show headP x = [82, c1, c2, c3, c4] by rw [hc1, hc2, hc3, hc4]; rfl)
  rw [← hc1] at b1
  rw [← hc2] at b2
  rw [← hc3] at b3
  rw [← hc4] at b4
  clear hc1 hc2 hc3 hc4
  rw [HB.out]
  clear HB
  generalize x.toNat / 2 ^ 24 = q1 at *
  generalize x.toNat / 2 ^ 16 = q2 at *
  generalize x.toNat / 2 ^ 8 = q3 at *
  unfold uv
  generalize x.toNat = q at *
  go_enter Try.func73, Try.ntmps73
  go_wp2
  go_ret
  exact ⟨rfl, by simp [bv]⟩

set_option maxHeartbeats 400000 in
theorem Head_any (w : World) : Calls Try.prog 44 #[] w fun e w' => e = .returned (.int .i64 20) ∧ Keeps [] w w' := by
  have HS := Lib.hid (fun w => Size_ok w 5 (by decide))
  rw [size5] at HS
  go_enter Try.func44, Try.ntmps44
  go_wp2_with (first | (go_at_call 73; refine (payloadOf_any _ 0#32).mono ?_; rintro e w' ⟨rfl, rfl⟩) | (go_at_call 19; refine (HS.out _).mono ?_; rintro e w' ⟨rfl, rfl⟩))
  go_ret
  exact ⟨rfl, Keeps.alloc [] _ _⟩

set_option maxHeartbeats 400000 in
theorem none_yes {F B W M : Nat} {s : FS} (w : World) (h : FlashAt w F B W M s) (h0 : 0 < s.wear.length) :
    Calls Try.prog 62 #[.pointer (some ⟨F, 0, none⟩)] w fun e w' => e = .returned (.bool false) ∧ w = w' := by
  have HS := Lib.hid (Sectors_yes w h)
  have hne : (((s.wear.length : Int) == 0) : Bool) = false := by simp; intro e; rw [e] at h0; cases h0
  generalize s.wear.length = n at *
  clear h h0
  go_enter Try.func62, Try.ntmps62
  go_wp2_with (go_at_call 63; refine HS.out.mono ?_; rintro e w' ⟨rfl, rfl⟩)
  go_ret
  exact ⟨rfl, rfl⟩

set_option maxHeartbeats 400000 in
theorem none_not (p : Option Addr) (w : World) (h : NotMade w p) :
    Calls Try.prog 62 #[.pointer p] w fun e w' => e = .returned (.bool true) ∧ w = w' := by
  go_enter Try.func62, Try.ntmps62
  go_wp2_with (go_at_call 63; refine (Sectors_not _ _ h).mono ?_; rintro e w' ⟨rfl, rfl⟩)
  go_ret
  exact ⟨rfl, rfl⟩

set_option maxHeartbeats 400000 in
theorem rread_not (p : Option Addr) (w : World) (h : NotMade w p) (k : Int) :
    Calls Try.prog 64 #[.pointer p, .int .i64 k] w fun e w' => e = .returned (.tuple #[.slice none 0 0, .int .i64 1]) ∧ w = w' := by
  by_cases h0 : 0 ≤ k
  all_goals
    go_enter Try.func64, Try.ntmps64
    go_wp2_with (first | (go_at_call 63; refine (Sectors_not _ _ h).mono ?_; rintro e w' ⟨rfl, rfl⟩) | (go_at_call 25; refine (Read_not _ _ h _ _).mono ?_; rintro e w' ⟨rfl, rfl⟩))
    go_ret2
    exact ⟨rfl, rfl⟩

/-- read, of a sector that is there. -/
theorem rread_ok {F B W M : Nat} {s : FS} (w : World) (hF : FlashAt w F B W M s) (k : Nat) (hd : s.down = false) (hk : k < s.wear.length) :
    Calls Try.prog 64 #[.pointer (some ⟨F, 0, none⟩), .int .i64 k] w fun e w' => ∃ b c, e = .returned (.tuple #[.slice (some ⟨b, 0, none⟩) 256 c, .int .i64 0]) ∧ w.heap.size ≤ b ∧
      Row w' b 5 ((sec s.bs k).map bv) c ∧ Keeps [] w w' := by
  have hlen := hF.len
  have hfew := hF.few
  have HR := Lib.hid (Read_ok w hF ((k * 256 : Nat) : Int) 256 hd (by unfold FS.has; omega))
  have hp : s.part ((k * 256 : Nat) : Int) 256 = sec s.bs k := by unfold FS.part sec; rw [Int.toNat_natCast]; rfl
  rw [hp] at HR
  have HS := Lib.hid (Sectors_yes w hF)
  have hlt : (k : Int) < s.wear.length := by omega
  have h0 : (0 : Int) ≤ k := by omega
  have hm : (k : Int) * 256 = ((k * 256 : Nat) : Int) := by omega
  clear hF hlen hd hk hp
  generalize s.wear.length = n at *
  generalize sec s.bs k = l at *
  generalize k * 256 = q at *
  go_enter Try.func64, Try.ntmps64
  go_wp2_with (first | (go_at_call 63; refine HS.out.mono ?_; rintro e w' ⟨rfl, rfl⟩) | (go_at_call 25; refine HR.out.mono ?_; rintro e w' ⟨b, c, rfl, hb, hr, hk⟩; have HB := Lib.hid hr; have HK := Lib.hid hk; clear hr hk))
  go_ret2
  exact ⟨b, c, rfl, hb, HB.out, HK.out⟩

/-- What read tells of sectors that cannot be read. -/
def FS.readNo (s : FS) (k : Int) : Int := if s.down = true then 12 else if ¬ (0 ≤ k ∧ k < s.wear.length) then 10 else 0

theorem FS.readNo_zero {s : FS} {k : Int} : s.readNo k = 0 ↔ s.down = false ∧ 0 ≤ k ∧ k < s.wear.length := by
  unfold FS.readNo
  cases s.down
  · simp
  · simp

theorem rread_no {F B W M : Nat} {s : FS} (w : World) (hF : FlashAt w F B W M s) (k : Int) (hk : k ≤ 9223372036854775807) (h : s.readNo k ≠ 0) :
    Calls Try.prog 64 #[.pointer (some ⟨F, 0, none⟩), .int .i64 k] w fun e w' => e = .returned (.tuple #[.slice none 0 0, .int .i64 (s.readNo k)]) ∧ w = w' := by
  have hlen := hF.len
  have hfew := hF.few
  have HS := Lib.hid (Sectors_yes w hF)
  have HR := Lib.hid (show ∀ a : Int, (s.down = true ∨ a = -1) → Calls Try.prog 25 #[.pointer (some ⟨F, 0, none⟩), .int .i64 a, .int .i64 256] w fun e w' => e = .returned (.tuple #[.slice none 0 0, .int .i64 (if s.down = true then 12 else 10)]) ∧ w = w' from fun a ha => by
    cases hd : s.down with
    | true => exact Read_down w hF a 256 hd
    | false =>
      rw [hd] at ha
      rcases ha with ha | rfl
      · cases ha
      · exact Read_out w hF (-1) 256 (by decide) hd (by unfold FS.has; omega))
  have hx : s.readNo k = if s.down = true then 12 else 10 := by
    unfold FS.readNo at h ⊢
    cases hd : s.down with
    | true => rfl
    | false =>
      rw [hd] at h
      rw [if_neg (by simp)] at h ⊢
      by_cases hi : 0 ≤ k ∧ k < s.wear.length
      · rw [if_neg (fun q => q hi)] at h; exact absurd rfl h
      · rw [if_pos hi, if_neg (by simp)]
  rw [hx]
  by_cases h1 : 0 ≤ k ∧ k < s.wear.length
  · have hd : s.down = true := by
      cases hd : s.down with
      | true => rfl
      | false =>
        exfalso; apply h
        exact FS.readNo_zero.2 ⟨hd, h1⟩
    have HRR := Lib.hid (fun a => HR.out a (.inl hd))
    clear HR hx h hd hF hlen
    obtain ⟨h2, h3⟩ := h1
    have hm : k * 256 ≤ 65536 := by omega
    generalize (if s.down = true then (12 : Int) else 10) = r at *
    generalize s.wear.length = n at *
    go_enter Try.func64, Try.ntmps64
    go_wp2_with (first | (go_at_call 63; refine HS.out.mono ?_; rintro e w' ⟨rfl, rfl⟩) | (go_at_call 25; refine (HRR.out _).mono ?_; rintro e w' ⟨rfl, rfl⟩))
    go_ret2
    exact ⟨rfl, rfl⟩
  · have HRR := Lib.hid (HR.out (-1) (.inr rfl))
    clear HR hx h hF hlen
    generalize (if s.down = true then (12 : Int) else 10) = r at *
    generalize s.wear.length = n at *
    by_cases h2 : 0 ≤ k
    · have h3 : ¬ k < (n : Int) := fun h3 => h1 ⟨h2, h3⟩
      clear h1
      go_enter Try.func64, Try.ntmps64
      go_wp2_with (first | (go_at_call 63; refine HS.out.mono ?_; rintro e w' ⟨rfl, rfl⟩) | (go_at_call 25; refine HRR.out.mono ?_; rintro e w' ⟨rfl, rfl⟩))
      go_ret2
      exact ⟨rfl, rfl⟩
    · clear h1
      go_enter Try.func64, Try.ntmps64
      go_wp2_with (first | (go_at_call 63; refine HS.out.mono ?_; rintro e w' ⟨rfl, rfl⟩) | (go_at_call 25; refine HRR.out.mono ?_; rintro e w' ⟨rfl, rfl⟩))
      go_ret2
      exact ⟨rfl, rfl⟩

set_option maxHeartbeats 400000 in
theorem numberOf_short (w : World) (v : Value) (p : List UInt8) (M : Nat) (h : Reads w v p M) (h5 : p.length ≠ 5) :
    Calls Try.prog 90 #[v] w fun e w' => e = .returned (.tuple #[uv 0#32, .bool false]) ∧ Keeps [] w w' := by
  obtain ⟨a, cap, rfl, _⟩ := h.shape
  have hne : (((p.length : Int) != 5) : Bool) = true := by simp; omega
  clear h h5
  generalize p.length = n at *
  go_enter Try.func90, Try.ntmps90
  go_wp2_with (go_at_call 73; refine (payloadOf_any _ 0#32).mono ?_; rintro e w' ⟨rfl, rfl⟩)
  go_ret2
  exact ⟨rfl, Keeps.alloc [] _ _⟩

set_option maxHeartbeats 400000 in
theorem numberOf_other (w : World) (v : Value) (k a b c d : UInt8) (M : Nat) (h : Reads w v [k, a, b, c, d] M) (hk : k ≠ 82) :
    Calls Try.prog 90 #[v] w fun e w' => e = .returned (.tuple #[uv 0#32, .bool false]) ∧ Keeps [] w w' := by
  obtain ⟨off, cap, rfl, _, hc⟩ := h.at (by simp)
  have c0 := hc 0 k rfl
  rw [Nat.add_zero] at c0
  have hne : (((k.toNat : Int) != 82) : Bool) = true := u8_ne k 82 hk
  have c0' : (w.alloc (.cells ((headP 0#32).map bv).toArray 5)).cell? ⟨M, off, none⟩ = some (.int .u8 (k.toNat : Int)) := (Keeps.alloc [] w _).cell c0 (by simp)
  clear h hc hk c0
  generalize (k.toNat : Int) = z at *
  go_enter Try.func90, Try.ntmps90
  go_wp2_with (go_at_call 73; refine (payloadOf_any _ 0#32).mono ?_; rintro e w' ⟨rfl, rfl⟩)
  go_ret2
  exact ⟨rfl, Keeps.alloc [] _ _⟩

def numAcc (l : List UInt8) (k : Nat) : BitVec 32 := (l.take k).foldl pushB 0#32

theorem numAcc_succ (l : List UInt8) (k : Nat) (c : UInt8) (h : l[k]? = some c) : numAcc l (k + 1) = pushB (numAcc l k) c := by
  unfold numAcc; rw [List.take_add_one, h, List.foldl_append]; rfl

set_option maxRecDepth 100000 in
set_option maxHeartbeats 1000000 in
theorem numberOf_head (w : World) (v : Value) (a b c d : UInt8) (M : Nat) (h : Reads w v [82, a, b, c, d] M) :
    Calls Try.prog 90 #[v] w fun e w' => e = .returned (.tuple #[uv (num4 a b c d), .bool true]) ∧ Keeps [] w w' := by
  obtain ⟨off, cap, rfl, hcap, hc⟩ := h.at (by simp)
  have hcap5 : 5 ≤ cap := by simpa using hcap
  have hsl : ∀ w, (Instr.slice 22 (.slice (some ⟨M, off, none⟩) 5 cap) (some (.int .i64 1)) none none).run Try.prog w = .ok (.slice (some ⟨M, off + 1, none⟩) 4 (cap - 1)) w := fun w => by
    rw [run_slice_l w 22 _ 5 cap underBytes .i64 1 (by omega) (by omega)]
    rw [elemBytes, sizeByte]
    simp only [Result.andThen, sliced]
    rw [if_neg (by omega)]
    rfl
  have hnum : numAcc [a, b, c, d] 4 = num4 a b c d := rfl
  have hmul : ∀ x : BitVec 32, IntKind.u32.wrap ((x.toNat : Int) * (2 : Int) ^ 8) = ((x <<< 8).toNat : Int) := fun x => shl32 x 8
  have hmul2 : ∀ x : BitVec 32, (x.toNat : Int) * (256 : Int) % (4294967296 : Int) = ((x <<< 8).toNat : Int) := fun x => by
    rw [BitVec.toNat_shiftLeft, Nat.shiftLeft_eq]; omega
  have hc2 : ∀ i x, [a, b, c, d][i]? = some x → w.cell? ⟨M, off + 1 + i, none⟩ = some (bv x) := fun i x hx => by
    have := hc (i + 1) x (by simpa using hx)
    rwa [show off + (i + 1) = off + 1 + i by omega] at this
  have c0 := hc 0 82 rfl
  rw [Nat.add_zero] at c0
  obtain ⟨V, hV⟩ : ∃ V, V = w.alloc (.cells ((headP 0#32).map bv).toArray 5) := ⟨_, rfl⟩
  have kV : Keeps [] w V := by rw [hV]; exact Keeps.alloc [] _ _
  have c0' : V.cell? ⟨M, off, none⟩ = some (.int .u8 82) := kV.cell c0 (by simp)
  have HC := Lib.hid (fun i x (hx : [a, b, c, d][i]? = some x) => kV.cell (hc2 i x hx) (by simp))
  have HV := Lib.hid hV
  have KV := Lib.hid kV
  have HN := Lib.hid hnum
  have HP := Lib.hid (payloadOf_any w 0#32)
  rw [← hV] at HP
  clear h hc hc2 hcap c0 hV kV hnum
  simp only [List.length_cons, List.length_nil, Nat.reduceAdd]
  go_enter Try.func90, Try.ntmps90
  go_wp2_with (go_at_call 73; refine HP.out.mono ?_; rintro e w' ⟨rfl, rfl⟩)
  go_loopw [4, 6, 21] (fun n b' i wr => ∃ k : Nat, k ≤ 4 ∧ i = .int .i64 k ∧ n = uv (numAcc [a, b, c, d] k) ∧ wr = V) (fun _ _ i _ => 4 - (intOf i).toNat)
  case atStart => exact ⟨0, by omega, rfl, rfl, rfl⟩
  case round =>
    obtain ⟨k, hk, rfl, rfl, rfl⟩ := hrel
    by_cases hlt : k < 4
    · obtain ⟨x, hx⟩ : ∃ x, [a, b, c, d][k]? = some x := ⟨_, List.getElem?_eq_getElem (by simpa using hlt)⟩
      have q0 := HC.out k x hx
      unfold bv at q0
      have HS := Lib.hid (numAcc_succ [a, b, c, d] k x hx)
      have m1 := hmul (numAcc [a, b, c, d] k)
      have m3 := hmul2 (numAcc [a, b, c, d] k)
      obtain ⟨y, hy⟩ : ∃ y : BitVec 32, y = x.toBitVec.setWidth 32 := ⟨_, rfl⟩
      have e1 : IntKind.u32.wrap (x.toNat : Int) = (y.toNat : Int) := by
        rw [hy, byte32 x]; exact wrap_nat32 _
      have e2 : (x.toNat : Int) = (y.toNat : Int) := by rw [hy]; exact byte32 x
      have m2 := bits_or32 (numAcc [a, b, c, d] k <<< 8) y
      have HY := Lib.hid (show pushB (numAcc [a, b, c, d] k) x = numAcc [a, b, c, d] k <<< 8 ||| y by rw [hy]; rfl)
      rw [e2] at q0
      have hki : (k : Int) < 4 := by omega
      clear hx hy e1 e2
      generalize hA : numAcc [a, b, c, d] k = A at *
      generalize hS8 : A <<< 8 = S8 at *
      generalize hO : S8 ||| y = O at *
      go_wp2
      go_roundw
      case rel => exact ⟨k + 1, by omega, by go_num, by rw [HS.out, HY.out], by trivial⟩
      case measure => simp [intOf]; omega
    · obtain rfl : k = 4 := by omega
      rw [HN.out]
      go_wp2
      go_ret2
      exact ⟨rfl, KV.out⟩

/-- numberOf, of whatever bytes. -/
theorem numberOf_any (w : World) (v : Value) (p : List UInt8) (M : Nat) (h : Reads w v p M) :
    Calls Try.prog 90 #[v] w fun e w' => e = .returned (.tuple #[uv ((numL p).getD 0#32), .bool (numL p).isSome]) ∧ Keeps [] w w' := by
  by_cases h5 : p.length = 5
  · match p, h5, h with
    | [k, a, b, c, d], _, h =>
      by_cases hk : k = 82
      · subst hk
        have := numberOf_head w v a b c d M h
        simpa [numL] using this
      · have := numberOf_other w v k a b c d M h hk
        simpa [numL, hk] using this
  · have hn : numL p = none := by
      unfold numL
      split
      · simp at h5
      · rfl
    rw [hn]
    exact numberOf_short w v p M h h5
end Go.Proofs.Ytdcfcljgennipaa
