/-
  Contracts of record: filled, Size, headOf, lengthOf.
  Contracts of record: bodyOf.
  Contracts of record: parts, bytesOf, Bytes; of the library: Grow, Concat.
  Contracts of record: written, first, At; of the library: Equal, HasPrefix.
-/
import Derived.Test.YtlnmbfddhdjioaaGreatGround
import Derived.Test.YtlnmbfddhdjioaaGreatRecMath
import Derived.Test.YtlnmbfddhdjioaaGreatCrcBase
import Derived.OwnWalk
import Derived.Deep.Cut
import Derived.Laws.Rows
import Derived.Lib.AppendZeros
namespace Go.Proofs.YtlnmbfddhdjioaaGreat
open Go.RowKit

theorem ret_int {k : IntKind} {a b : Int} (h : a = b) : Ending.returned (.int k a) = .returned (.int k b) := by rw [h]

theorem ret_pair {k : IntKind} {a b : Int} {p q : Bool} (h : a = b) (hq : p = q) : Ending.returned (.tuple #[.int k a, .bool p]) = .returned (.tuple #[.int k b, .bool q]) := by rw [h, hq]

set_option maxHeartbeats 400000 in
theorem filled_any (w : World) (n : Nat) (hn : n ≤ 1000000) :
    Calls Tryz.prog 54 #[.int .i64 n] w fun e w' => e = .returned (.int .i64 (fillN n)) ∧ w = w' := by
  have e : (fillN n : Int) = ((n : Int) + 3) / 4 * 4 := by unfold fillN; omega
  rw [e]
  clear e
  go_enter Tryz.func54, Tryz.ntmps54
  go_wp2
  go_ret
  exact ⟨ret_int (by omega), rfl⟩

set_option maxHeartbeats 400000 in
theorem Size_ok (w : World) (n : Nat) (hn : n ≤ 4080) :
    Calls Tryz.prog 28 #[.int .i64 n] w fun e w' => e = .returned (.int .i64 (sizeN n)) ∧ w = w' := by
  have e : (sizeN n : Int) = 4 + (fillN n : Int) + 4 + 4 := by unfold sizeN; omega
  rw [e]
  have h1 := fillN_lt n
  have h2 : (fillN n : Int) ≤ 5000 := by omega
  have h3 : (0 : Int) ≤ (fillN n : Int) := by omega
  clear e h1
  have hf := filled_any w n (by omega)
  generalize (fillN n : Int) = f at *
  go_enter Tryz.func28, Tryz.ntmps28
  go_wp2_with (go_at_call 54; refine hf.mono ?_; rintro e w' ⟨rfl, rfl⟩)
  go_ret
  exact ⟨by congr 2, rfl⟩

set_option maxHeartbeats 400000 in
theorem Size_out (w : World) (n : Int) (hn : n < 0 ∨ 4080 < n) :
    Calls Tryz.prog 28 #[.int .i64 n] w fun e w' => e = .returned (.int .i64 0) ∧ w = w' := by
  by_cases h : n < 0
  · go_enter Tryz.func28, Tryz.ntmps28
    go_wp2
    go_ret
    exact ⟨rfl, rfl⟩
  · have h4 : 4080 < n := by omega
    go_enter Tryz.func28, Tryz.ntmps28
    go_wp2
    go_ret
    exact ⟨rfl, rfl⟩

theorem bits_not8 (c : UInt8) : bits .xor .u8 255 (c.toNat : Int) = ((~~~c).toNat : Int) := by
  have h : ∀ c : Fin 256, bits .xor .u8 255 (c.val : Int) = ((255 - c.val : Nat) : Int) := by decide +kernel
  have h2 : (~~~c).toNat = 255 - c.toNat := by
    rw [UInt8.toNat_not]
    simp [UInt8.size]
  have := h ⟨c.toNat, c.toNat_lt⟩
  rw [h2]; exact this

theorem byte_wrap (n : Nat) : IntKind.u8.wrap (n : Int) = ((UInt8.ofNat n).toNat : Int) := by
  show (n : Int) % 256 = _
  simp

theorem byte_mod8 (n : Nat) : (n : Int) % 256 = ((UInt8.ofNat n).toNat : Int) := by simp

set_option maxHeartbeats 400000 in
theorem headOf_any (w : World) (n : Nat) :
    Calls Tryz.prog 99 #[.int .i64 n] w fun e w' => e = .returned (.slice (some ⟨w.heap.size, 0, none⟩) 4 4) ∧ w.alloc (.cells ((headB n).map bv).toArray 5) = w' := by
  have n1 := show bits .xor .u8 IntKind.u8.max _ = _ from bits_not8 (UInt8.ofNat (n / 256))
  have n2 := show bits .xor .u8 IntKind.u8.max _ = _ from bits_not8 (UInt8.ofNat n)
  have b1 := byte_wrap (n / 256)
  have b2 := byte_wrap n
  have d1 : (n : Int) / (2 : Int) ^ 8 = ((n / 256 : Nat) : Int) := by omega
  have d2 : (n : Int) / (256 : Int) = ((n / 256 : Nat) : Int) := by omega
  unfold headB
  generalize UInt8.ofNat (n / 256) = hh at *
  generalize UInt8.ofNat n = l at *
  generalize n / 256 = q at *
  go_enter Tryz.func99, Tryz.ntmps99
  go_wp2
  all_goals first | (exfalso; have hs : IntKind.u8.signed = true := by assumption; cases hs) | skip
  go_ret
  exact ⟨rfl, by simp [bv]⟩

/-- What lengthOf answers. -/
def lenOf : List UInt8 → Nat × Bool
  | a :: b :: c :: d :: _ => if a = ~~~c ∧ b = ~~~d then (a.toNat * 256 + b.toNat, decide (a.toNat * 256 + b.toNat ≤ 4080)) else (0, false)
  | _ => (0, false)

theorem u8_ne (a b : UInt8) (h : a ≠ b) : (((a.toNat : Int) != (b.toNat : Int)) : Bool) = true := by
  simp only [bne_iff_ne, ne_eq]
  intro e
  apply h
  apply UInt8.toNat_inj.1
  omega

theorem u8_eq (a b : UInt8) (h : a = b) : (((a.toNat : Int) != (b.toNat : Int)) : Bool) = false := by
  subst h; simp

set_option maxHeartbeats 400000 in
theorem lengthOf_short (w : World) (v : Value) (l : List UInt8) (M : Nat) (h : Reads w v l M) (hl : l.length < 4) :
    Calls Tryz.prog 109 #[v] w fun e w' => e = .returned (.tuple #[.int .i64 0, .bool false]) ∧ Keeps [] w w' := by
  obtain ⟨a, cap, rfl, _⟩ := h.shape
  have hl' : decide ((l.length : Int) < 4) = true := by simp; omega
  clear h
  generalize l.length = n at *
  go_enter Tryz.func109, Tryz.ntmps109
  go_wp2
  go_quiet (fail)
  go_wp2
  go_ret2
  exact ⟨rfl, Keeps.drewN _ _ _⟩

theorem or_high (a b : Nat) (ha : a < 256) (hb : b < 256) : bits .or .i64 ((a : Int) * 256) (b : Int) = ((a * 256 + b : Nat) : Int) := by
  have h : a * 256 + b = (a * 256) ||| b := by
    have := Nat.shiftLeft_add_eq_or_of_lt (i := 8) (b := b) hb a
    rw [Nat.shiftLeft_eq] at this
    exact this
  have e1 : BitVec.ofInt IntKind.i64.bits ((a : Int) * 256) = BitVec.ofNat 64 (a * 256) := by
    rw [show (a : Int) * 256 = ((a * 256 : Nat) : Int) by omega]
    exact BitVec.ofInt_natCast _ _
  have e2 : BitVec.ofInt IntKind.i64.bits (b : Int) = BitVec.ofNat 64 b := BitVec.ofInt_natCast _ _
  unfold bits
  simp only [e1, e2]
  show IntKind.i64.wrap ((BitVec.ofNat 64 (a * 256) ||| BitVec.ofNat 64 b : BitVec 64).toNat : Int) = _
  rw [← BitVec.ofNat_or, ← h, BitVec.toNat_ofNat, Nat.mod_eq_of_lt (by show _ < 18446744073709551616; omega)]
  exact IntWalk.i64_in _ (by omega)

set_option maxHeartbeats 400000 in
theorem lengthOf_four (w : World) (v : Value) (a b c d : UInt8) (r : List UInt8) (M : Nat) (h : Reads w v (a :: b :: c :: d :: r) M) (hl : r.length ≤ 100000000) :
    Calls Tryz.prog 109 #[v] w fun e w' => e = .returned (.tuple #[.int .i64 (lenOf (a :: b :: c :: d :: r)).1, .bool (lenOf (a :: b :: c :: d :: r)).2]) ∧ Keeps [] w w' := by
  obtain ⟨off, cap, rfl, hcap, hc⟩ := h.at (by simp)
  have c0 := hc 0 a rfl
  have c1 := hc 1 b rfl
  have c2 := hc 2 c rfl
  have c3 := hc 3 d rfl
  rw [Nat.add_zero] at c0
  have n1 := show bits .xor .u8 IntKind.u8.max _ = _ from bits_not8 c
  have n2 := show bits .xor .u8 IntKind.u8.max _ = _ from bits_not8 d
  obtain ⟨x, hx⟩ : ∃ x, ~~~c = x := ⟨_, rfl⟩
  obtain ⟨y, hy⟩ : ∃ y, ~~~d = y := ⟨_, rfl⟩
  rw [hx] at n1
  rw [hy] at n2
  have HL : Hid (lenOf (a :: b :: c :: d :: r) = if a = x ∧ b = y then (a.toNat * 256 + b.toNat, decide (a.toNat * 256 + b.toNat ≤ 4080)) else (0, false)) := Lib.hid (by simp only [lenOf, hx, hy])
  clear hx hy
  have hlen : (a :: b :: c :: d :: r).length = r.length + 4 := by simp
  have hsg : IntKind.u8.signed = false := rfl
  have hl4 : decide (((a :: b :: c :: d :: r).length : Int) < 4) = false := by rw [hlen]; simp; omega
  have l0 : (0 : Int) < ((a :: b :: c :: d :: r).length : Int) := by rw [hlen]; omega
  have l1 : (1 : Int) < ((a :: b :: c :: d :: r).length : Int) := by rw [hlen]; omega
  have l2 : (2 : Int) < ((a :: b :: c :: d :: r).length : Int) := by rw [hlen]; omega
  have l3 : (3 : Int) < ((a :: b :: c :: d :: r).length : Int) := by rw [hlen]; omega
  have m0 : 0 < (a :: b :: c :: d :: r).length := by rw [hlen]; omega
  have ho := or_high a.toNat b.toNat a.toNat_lt b.toNat_lt
  have wa : IntKind.i64.wrap (a.toNat : Int) = a.toNat := IntWalk.i64_in _ (by have := a.toNat_lt; omega)
  have wb : IntKind.i64.wrap (b.toNat : Int) = b.toNat := IntWalk.i64_in _ (by have := b.toNat_lt; omega)
  have wc : IntKind.i64.wrap ((a.toNat : Int) * 256) = (a.toNat : Int) * 256 := IntWalk.i64_in _ (by have := a.toNat_lt; omega)
  unfold bv at c0 c1 c2 c3
  clear h hc hlen
  generalize (a :: b :: c :: d :: r).length = n at *
  by_cases h1 : a = x
  · have e1 := u8_eq a x h1
    by_cases h2 : b = y
    · have e2 := u8_eq b y h2
      have hm : lenOf (a :: b :: c :: d :: r) = (a.toNat * 256 + b.toNat, decide (a.toNat * 256 + b.toNat ≤ 4080)) := by
        rw [HL.out, if_pos ⟨h1, h2⟩]
      rw [hm]
      clear hm h1 h2 HL
      go_enter Tryz.func109, Tryz.ntmps109
      go_wp2
      go_quiet (fail)
      all_goals first | (exfalso; have hs : IntKind.u8.signed = true := by assumption; cases hs) | skip
      go_wp2
      go_quiet (fail)
      go_wp2
      go_ret2
      exact ⟨ret_pair (by omega) (decide_eq_decide.2 (by omega)), Keeps.drewN _ _ _⟩
    · have e2 := u8_ne b y h2
      have hm : lenOf (a :: b :: c :: d :: r) = (0, false) := by
        rw [HL.out, if_neg (fun h => h2 h.2)]
      rw [hm]
      clear hm h1 h2 HL
      go_enter Tryz.func109, Tryz.ntmps109
      go_wp2
      go_quiet (fail)
      all_goals first | (exfalso; have hs : IntKind.u8.signed = true := by assumption; cases hs) | skip
      go_wp2
      go_ret2
      exact ⟨rfl, Keeps.drewN _ _ _⟩
  · have e1 := u8_ne a x h1
    have hm : lenOf (a :: b :: c :: d :: r) = (0, false) := by
      rw [HL.out, if_neg (fun h => h1 h.1)]
    rw [hm]
    clear hm h1 HL
    go_enter Tryz.func109, Tryz.ntmps109
    go_wp2
    go_quiet (fail)
    all_goals first | (exfalso; have hs : IntKind.u8.signed = true := by assumption; cases hs) | skip
    go_wp2
    go_ret2
    exact ⟨rfl, Keeps.drewN _ _ _⟩
end Go.Proofs.YtlnmbfddhdjioaaGreat

namespace Go.Proofs.YtlnmbfddhdjioaaGreat
open Go.RowKit

theorem padB_more (p : List UInt8) (k : Nat) : (p ++ List.replicate k (255 : UInt8)) ++ [255] = p ++ List.replicate (k + 1) 255 := by
  rw [List.append_assoc, ← List.replicate_succ']

def sliceLen : Value → Nat
  | .slice _ n _ => n
  | _ => 0

theorem Keeps.ownedK {S : List Nat} {w wr w' : World} {T : TypeId} {size n : Nat} {v : Value} {xs : List Value} (hk : Keeps S w wr) (h : wr.ownsRow w.heap.size T size v n xs) (hg : Keeps v.ownBlock.toList wr w') : Keeps S w w' :=
  hk.then hg (fun x hx => .inr (h.lt x (by simpa using hx)).1)

theorem addl_two (h b : List UInt8) : ~~~ (addl (addl ones32 h) b) = crcOf (h ++ b) := by
  unfold crcOf; rw [addl_append]

set_option maxRecDepth 100000 in
set_option maxHeartbeats 2000000 in
theorem bodyOf_any (w : World) (hv pv : Value) (h p : List UInt8) (Mh Mp : Nat) (rh : Reads w hv h Mh) (rp : Reads w pv p Mp) (hh : h.length ≤ 65536) (hp : p.length ≤ 4080) (hw : 0 < w.heap.size) :
    Calls Tryz.prog 100 #[hv, pv] w fun e w' => ∃ v, e = .returned v ∧ w'.ownsRow w.heap.size 5 1 v (fillN p.length + 4) ((padB p ++ be4 (crcOf (h ++ padB p))).map bv) ∧ Keeps [] w w' := by
  obtain ⟨i0, hi, hz0, hz1, hz2⟩ := info_parts infoByte
  obtain ⟨n, hn⟩ : ∃ n, n = p.length := ⟨_, rfl⟩
  obtain ⟨f, hf⟩ : ∃ f, f = fillN n := ⟨_, rfl⟩
  have hf1 : n ≤ f := by rw [hf]; exact fillN_ge n
  have hf2 : f < n + 4 := by rw [hf]; exact fillN_lt n
  have hf3 : f % 4 = 0 := by rw [hf]; exact fillN_mod n
  obtain ⟨pa, pc, hpv, hpcap⟩ := rp.shape
  rw [← hn] at hp hpcap
  have hfill := filled_any w n (by omega)
  rw [← hf] at hfill
  obtain ⟨x, hx⟩ : ∃ x, x = crcOf (h ++ padB p) := ⟨_, rfl⟩
  rw [← hx]
  have HXE := Lib.hid (show ∀ w, Calls Tryz.prog 112 #[uv (addl (addl ones32 h) (padB p))] w fun e w' => e = .returned (uv x) ∧ w = w' from fun w => by
    have := End_any w (addl (addl ones32 h) (padB p))
    rwa [addl_two, ← hx] at this)
  clear hx
  have RH := Lib.hid rh
  have RP := Lib.hid rp
  have HN := Lib.hid hn
  have HF := Lib.hid hf
  rw [← hn, ← hf]
  rw [← hn] at hpv
  subst hpv
  clear rh rp hn hf
  go_enter Tryz.func100, Tryz.ntmps100
  go_wp2_with (first | (go_at_call 54; refine hfill.mono ?_; rintro e w' ⟨rfl, rfl⟩) | (refine wpList_make_own _ rfl _ _ 23 rfl w.heap.size 5 i0 (.int .u8 0) 1 Tryz.underlying23 hi hz0 hz1 .i64 .i64 _ (f + 4) rfl rfl rfl (by rw [hz2]; omega) (by unfold maxLen; omega) (Nat.le_refl _) ?_; intro w1 hown1 hg1; have HO := Lib.hid hown1; have HG := Lib.hid (Keeps.grown (S := []) hg1 (fun k hk => by cases hk)); clear hown1 hg1) | (at_builtin; refine wpList_append_reads rfl _ _ rfl w.heap.size _ [] rfl HO.out _ p Mp rfl (RP.out.keeps HG.out (by simp)) (by have := HN.out; simp; omega) HG.out.size ?_; intro v2 w2 hown2 hk2; have HO2 := Lib.hid hown2; have HG2 := Lib.hid hk2; clear hown2 hk2))
  have KP := Lib.hid (HG.out.ownedK HO.out HG2.out)
  rw [List.nil_append] at HO2
  obtain ⟨ao2, cp2, rfl⟩ := owns_shape2 HO2.out
  go_loopw [5] (fun v wr => ∃ (k : Nat) (ao : Option Addr) (cp : Nat), n + k ≤ f ∧ v = .slice ao (n + k) cp ∧ wr.ownsRow w.heap.size 5 1 v (p ++ List.replicate k 255).length ((p ++ List.replicate k 255).map bv) ∧ Keeps [] w wr) (fun v _ => f - sliceLen v)
  case atStart => exact ⟨0, ao2, cp2, hf1, by rw [← HN.out]; rfl, by simpa using HO2.out, KP.out⟩
  case round =>
    obtain ⟨k, ao, cp, hk, rfl, hown, kp⟩ := hrel
    have hlk : (p ++ List.replicate k (255 : UInt8)).length = n + k := by simp [← HN.out]
    have HO' := Lib.hid hown
    have KP' := Lib.hid kp
    have HLK := Lib.hid hlk
    obtain ⟨L, hL⟩ : ∃ L, L = n + k := ⟨_, rfl⟩
    obtain ⟨r, hr⟩ : ∃ r, r = L % 4 := ⟨_, rfl⟩
    have e1 : (L : Int) % 4 = (r : Int) := by omega
    have e2 : (L : Int).tmod 4 = (r : Int) := by rw [Int.tmod_eq_emod_of_nonneg (by omega)]; exact e1
    have hL4 : L ≤ 5000 := by omega
    rw [← hL] at HO'
    clear hown kp hlk
    by_cases hlt : n + k < f
    · have hne : (((r : Int) != 0) : Bool) = true := by simp; omega
      have hLk : L < f := by omega
      have HL := Lib.hid hL
      rw [← hL]
      clear hL hr hlt
      go_wp2_with (at_builtin; refine wpList_append_reads rfl _ _ rfl w.heap.size _ (p ++ List.replicate k 255) rfl (HO'.out.alloc _) _ [255] wr.heap.size rfl (Reads.lit wr [255] _ 5 1 (0, 0) rfl rfl) (by rw [HLK.out]; simp; omega) (by have := KP'.out.size; simp; omega) ?_; intro v3 w3 hown3 hk3; have HO3 := Lib.hid hown3; have HG3 := Lib.hid hk3; clear hown3 hk3)
      have KP3 := Lib.hid ((KP'.out.trans (Keeps.alloc [] wr _)).ownedK (HO'.out.alloc _) HG3.out)
      rw [padB_more] at HO3
      obtain ⟨ao3, cp3, rfl⟩ := owns_shape2 HO3.out
      have hl3 : (p ++ List.replicate (k + 1) (255 : UInt8)).length = n + (k + 1) := by simp [← HN.out]
      refine ⟨⟨k + 1, ao3, cp3, by have := HL.out; omega, by rw [hl3], HO3.out, KP3.out⟩, ?_⟩
      show f - (p ++ List.replicate (k + 1) (255 : UInt8)).length < f - L
      rw [hl3]; have := HL.out; omega
    · have hkf : L = f := by omega
      have he : ((0 : Int) != 0) = false := rfl
      have hr0 : r = 0 := by omega
      have hpad : p ++ List.replicate k (255 : UInt8) = padB p := by
        unfold padB
        rw [← HN.out, ← HF.out, show f - n = k by omega]
      rw [hpad] at HO' HLK
      rw [← hL]
      subst hr0
      have HLF := Lib.hid hkf
      have hL5 : L = (padB p).length := by rw [HLK.out]; exact hL
      have HL5 := Lib.hid hL5
      clear hL hr hlt hpad hkf hL5
      obtain ⟨Mb, rb, _⟩ := owns_reads HO'.out (by have := KP'.out.size; omega)
      have RB := Lib.hid rb
      have hL65 : L ≤ 65536 := by omega
      clear rb
      have RHW := Lib.hid (RH.out.keeps KP'.out (by simp))
      go_wp2_with fail
      refine (Begin_any _).mono ?_
      rintro e w' ⟨rfl, rfl⟩
      go_wp2_with fail
      refine (Add_any _ ones32 _ h Mh RHW.out hh).mono ?_
      rintro e w3 ⟨rfl, k3⟩
      have K3 := Lib.hid k3
      have RB3 := Lib.hid (RB.out.keeps k3 (by simp))
      have HO3 := Lib.hid (World.ownsRow.keeps HO'.out k3 (by simp))
      have KP3 := Lib.hid (KP'.out.trans k3)
      clear k3
      go_wp2_with fail
      refine (Add_any _ _ _ (padB p) Mb RB3.out (by rw [← HL5.out]; exact hL65)).mono ?_
      rintro e w4 ⟨rfl, k4⟩
      have HO4 := Lib.hid (World.ownsRow.keeps HO3.out k4 (by simp))
      have KP4 := Lib.hid (KP3.out.trans k4)
      clear k4
      go_wp2_with fail
      refine (HXE.out _).mono ?_
      rintro e w' ⟨rfl, rfl⟩
      have d1 : (x.toNat : Int) / (2 : Int) ^ 24 = ((x.toNat / 2 ^ 24 : Nat) : Int) := by rw [Int.natCast_ediv, Int.natCast_pow]; rfl
      have d2 : (x.toNat : Int) / (2 : Int) ^ 16 = ((x.toNat / 2 ^ 16 : Nat) : Int) := by rw [Int.natCast_ediv, Int.natCast_pow]; rfl
      have d3 : (x.toNat : Int) / (2 : Int) ^ 8 = ((x.toNat / 2 ^ 8 : Nat) : Int) := by rw [Int.natCast_ediv, Int.natCast_pow]; rfl
      have f1 : (x.toNat : Int) / (16777216 : Int) = ((x.toNat / 2 ^ 24 : Nat) : Int) := d1
      have f2 : (x.toNat : Int) / (65536 : Int) = ((x.toNat / 2 ^ 16 : Nat) : Int) := d2
      have f3 : (x.toNat : Int) / (256 : Int) = ((x.toNat / 2 ^ 8 : Nat) : Int) := d3
      have b1 := byte_wrap (x.toNat / 2 ^ 24)
      have b2 := byte_wrap (x.toNat / 2 ^ 16)
      have b3 := byte_wrap (x.toNat / 2 ^ 8)
      have b4 := byte_wrap x.toNat
      obtain ⟨c1, hc1⟩ : ∃ c, c = UInt8.ofNat (x.toNat / 2 ^ 24) := ⟨_, rfl⟩
      obtain ⟨c2, hc2⟩ : ∃ c, c = UInt8.ofNat (x.toNat / 2 ^ 16) := ⟨_, rfl⟩
      obtain ⟨c3, hc3⟩ : ∃ c, c = UInt8.ofNat (x.toNat / 2 ^ 8) := ⟨_, rfl⟩
      obtain ⟨c4, hc4⟩ : ∃ c, c = UInt8.ofNat x.toNat := ⟨_, rfl⟩
      have HB := Lib.hid (show be4 x = [c1, c2, c3, c4] by rw [hc1, hc2, hc3, hc4]; rfl)
      rw [← hc1] at b1
      rw [← hc2] at b2
      rw [← hc3] at b3
      rw [← hc4] at b4
      clear hc1 hc2 hc3 hc4
      generalize x.toNat / 2 ^ 24 = q1 at *
      generalize x.toNat / 2 ^ 16 = q2 at *
      generalize x.toNat / 2 ^ 8 = q3 at *
      go_wp2_with (at_builtin; refine wpList_append_reads rfl _ _ rfl w.heap.size _ (padB p) rfl (HO4.out.alloc _) _ [c1, c2, c3, c4] w4.heap.size rfl (Reads.lit w4 [c1, c2, c3, c4] _ 5 4 (0, 0) rfl rfl) (by rw [← HL5.out]; simp; omega) (by have := KP4.out.size; simp; omega) ?_; intro v5 w5 hown5 hk5; have HO5 := Lib.hid hown5; have HG5 := Lib.hid hk5; clear hown5 hk5)
      have KP5 := Lib.hid ((KP4.out.trans (Keeps.alloc [] w4 _)).ownedK (HO4.out.alloc _) HG5.out)
      go_wp2
      go_ret
      refine ⟨v5, rfl, ?_, KP5.out⟩
      rw [HB.out]
      have := HO5.out
      rw [List.length_append, ← HL5.out, HLF.out] at this
      exact this
end Go.Proofs.YtlnmbfddhdjioaaGreat

namespace Go.Proofs.YtlnmbfddhdjioaaGreat
open Go.RowKit

/-- Bytes in memory that is newer than a number of blocks. -/
def New (base : Nat) (w : World) (v : Value) (l : List UInt8) : Prop := ∃ M, Reads w v l M ∧ base ≤ M ∧ M < w.heap.size

theorem New.keeps {S : List Nat} {base : Nat} {w w' : World} {v : Value} {l : List UInt8} (h : New base w v l) (hk : Keeps S w w') (hS : ∀ x ∈ S, x < base ∨ w.heap.size ≤ x) : New base w' v l := by
  obtain ⟨M, hr, hb, hM⟩ := h
  exact ⟨M, hr.keeps hk (fun hm => by rcases hS M hm with h | h <;> omega), hb, by have := hk.size; omega⟩

theorem New.mono {b b' : Nat} {w : World} {v : Value} {l : List UInt8} (h : New b w v l) (hb : b' ≤ b) : New b' w v l := by
  obtain ⟨M, hr, h1, hM⟩ := h
  exact ⟨M, hr, by omega, hM⟩

theorem New.lit (w : World) (l : List UInt8) (cs : Array Value) (T : TypeId) (n : Nat) (hcs : cs = (l.map bv).toArray) (hn : n = l.length) :
    New w.heap.size (w.alloc (.cells cs T)) (.slice (some ⟨w.heap.size, 0, none⟩) n n) l :=
  ⟨_, Reads.lit w l cs T n (0, 0) hcs hn, Nat.le_refl _, by simp⟩

theorem New.owns {base n : Nat} {w : World} {v : Value} {l : List UInt8} (h : w.ownsRow base 5 1 v n (l.map bv)) (hne : l ≠ []) : New base w v l := by
  have h' := h
  obtain ⟨hl, h2⟩ := h
  rw [List.length_map, Nat.mul_one] at hl
  rcases h2 with ⟨rfl, rfl⟩ | ⟨g, cap, cur, rfl, hg0, hg, _⟩
  · obtain rfl : l = [] := List.eq_nil_of_length_eq_zero hl
    exact absurd rfl hne
  · have hr := (Row.ofOwnsAt h').reads
    rw [hl] at hr
    exact ⟨g, hr, hg0, (Array.getElem?_eq_some_iff.1 hg).1⟩

theorem New.shape {base : Nat} {w : World} {v : Value} {l : List UInt8} (h : New base w v l) : ∃ a cap, v = .slice a l.length cap ∧ l.length ≤ cap := by
  obtain ⟨M, hr, _⟩ := h; exact hr.shape

theorem built_parts (a0 a1 a2 : Option Addr) (n0 n1 n2 c0 c1 c2 : Nat) : Tryz.prog.built 132 [(0, .slice a0 n0 c0), (1, .slice a1 n1 c1), (2, .slice a2 n2 c2)] = some #[.slice a0 n0 c0, .slice a1 n1 c1, .slice a2 n2 c2] := by kernel_rfl

theorem parts_one (a0 a1 a2 : Option Addr) (n0 n1 n2 c0 c1 c2 : Nat) : (#[Value.slice a0 n0 c0, Value.slice a1 n1 c1, Value.slice a2 n2 c2].all fun x => x.oneCell') = true := by kernel_rfl

theorem szParts : (Tryz.prog.info? 132).map (·.size) = some 3 := by kernel_rfl

set_option maxRecDepth 100000 in
set_option maxHeartbeats 2000000 in
theorem parts_any (w : World) (pv : Value) (p : List UInt8) (Mp : Nat) (rp : Reads w pv p Mp) (hp : p.length ≤ 4080) :
    Calls Tryz.prog 77 #[pv] w fun e w' => ∃ v0 v1 v2, e = .returned (.agg #[v0, v1, v2]) ∧ New w.heap.size w' v0 (headB p.length) ∧ New w.heap.size w' v1 (bodyB p) ∧ New w.heap.size w' v2 [0, 0, 0, 0] ∧ Keeps [] w w' := by
  obtain ⟨n, hn⟩ : ∃ n, n = p.length := ⟨_, rfl⟩
  obtain ⟨pa, pc, hpv, hpcap⟩ := rp.shape
  rw [← hn] at hpcap
  have RP := Lib.hid rp
  have HN := Lib.hid hn
  rw [← hn]
  rw [← hn] at hpv
  subst hpv
  clear rp hn
  go_enter Tryz.func77, Tryz.ntmps77
  go_wp2_with fail
  generalize hV : World.alloc w _ = V
  have kV : Keeps [] w V := by rw [← hV]; exact Keeps.alloc [] _ _
  have w0 : Whole V w.heap.size 132 [.slice none 0 0, .slice none 0 0, .slice none 0 0] := by rw [← hV]; exact Whole.new w _ [_, _, _]
  have KV := Lib.hid kV
  have W0 := Lib.hid w0
  have sV := w0.lt
  have RPV := Lib.hid (RP.out.keeps kV (by simp))
  clear hV w0 kV
  refine (headOf_any _ n).mono ?_
  rintro e w1 ⟨rfl, h1⟩
  have n0 : New V.heap.size w1 (.slice (some ⟨V.heap.size, 0, none⟩) 4 4) (headB n) := by rw [← h1]; exact New.lit _ _ _ _ _ rfl rfl
  have k1 : Keeps [] V w1 := by rw [← h1]; exact Keeps.alloc [] _ _
  have N0 := Lib.hid n0
  have K1 := Lib.hid k1
  have RP1 := Lib.hid (RPV.out.keeps k1 (by simp))
  clear h1 n0 k1
  obtain ⟨M0, hr0, hb0, hM0⟩ := N0.out
  have R0 := Lib.hid hr0
  clear hr0
  go_wp2_with fail
  refine (bodyOf_any _ _ _ (headB n) p M0 Mp R0.out RP1.out (by rw [headB_length]; decide) hp (by omega)).mono ?_
  rintro e w2 ⟨v1, rfl, ho, k2⟩
  have n1 : New w1.heap.size w2 v1 (bodyB p) := New.owns (n := fillN p.length + 4) (by unfold bodyB; rw [← HN.out] at ho ⊢; exact ho) (by intro e; have := congrArg List.length e; rw [bodyB_length] at this; simp at this)
  have N1 := Lib.hid n1
  have N0' := Lib.hid (N0.out.keeps k2 (by simp))
  have KV1 := Lib.hid (KV.out.trans K1.out)
  have KV2 := Lib.hid ((KV.out.trans K1.out).trans k2)
  have W2 := Lib.hid (show ∀ o, Whole (w2.alloc o) w.heap.size 132 [.slice none 0 0, .slice none 0 0, .slice none 0 0] from fun o => ((W0.out.keeps K1.out (by simp)).keeps k2 (by simp)).keeps (Keeps.alloc [] w2 o) (by simp))
  obtain ⟨a1, c1, rfl, _⟩ := n1.shape
  have s1 := K1.out.size
  have s2 := k2.size
  clear ho k2 n1
  go_wp2_with (first | (refine wpList_build_at rfl 132 _ rfl _ (built_parts _ _ _ _ _ _ _ _ _) ?_) | (refine wpList_store_row rfl 132 _ _ rfl w.heap.size #[.slice (some ⟨V.heap.size, 0, none⟩) 4 4, .slice a1 (bodyB p).length c1, .slice (some ⟨w2.heap.size, 0, none⟩) 4 4] rfl rfl 132 #[.slice none 0 0, .slice none 0 0, .slice none 0 0] (W2.out _) (by rw [szParts]; rfl) rfl (parts_one _ _ _ _ _ _ _ _ _) ?_))
  have W3 := (W2.out (.cells #[Value.int .u8 0, Value.int .u8 0, Value.int .u8 0, Value.int .u8 0] 5)).setRow [.slice (some ⟨V.heap.size, 0, none⟩) 4 4, .slice a1 (bodyB p).length c1, .slice (some ⟨w2.heap.size, 0, none⟩) 4 4]
  have n2 := New.lit w2 [0, 0, 0, 0] #[Value.int .u8 0, Value.int .u8 0, Value.int .u8 0, Value.int .u8 0] 5 4 rfl rfl
  have kA : Keeps [] w2 (w2.alloc (.cells #[Value.int .u8 0, Value.int .u8 0, Value.int .u8 0, Value.int .u8 0] 5)) := Keeps.alloc [] _ _
  have kB : Keeps [w.heap.size] (w2.alloc (.cells #[Value.int .u8 0, Value.int .u8 0, Value.int .u8 0, Value.int .u8 0] 5)) ((w2.alloc (.cells #[Value.int .u8 0, Value.int .u8 0, Value.int .u8 0, Value.int .u8 0] 5)).setRow w.heap.size #[.slice (some ⟨V.heap.size, 0, none⟩) 4 4, .slice a1 (bodyB p).length c1, .slice (some ⟨w2.heap.size, 0, none⟩) 4 4]) := Keeps.setRow _ (by simp) _
  refine bodyPost_ret (results_cell_row Tryz.results77 _ _ w.heap.size 132 #[.slice (some ⟨V.heap.size, 0, none⟩) 4 4, .slice a1 (bodyB p).length c1, .slice (some ⟨w2.heap.size, 0, none⟩) 4 4] (0, 0) _ rfl W3 Tryz.underlying132 rfl (by rw [szParts]; rfl)) rfl ⟨_, _, _, rfl, ?_, ?_, ?_, ?_⟩
  · exact ((N0'.out.keeps kA (by simp)).keeps kB (by simp; omega)).mono (by omega)
  · exact ((N1.out.keeps kA (by simp)).keeps kB (by simp; omega)).mono (by omega)
  · exact (n2.keeps kB (by simp; omega)).mono (by omega)
  · exact (KV2.out.trans kA).then kB (by simp)

theorem zero_cells (k : Nat) : Builtin.zeroCells #[Value.int IntKind.u8 0] k = (List.replicate k (Value.int .u8 0)).toArray := by
  apply Array.ext
  · simp [Builtin.zeroCells]
  · intro i h1 h2
    simp [Builtin.zeroCells, Nat.mod_one]

set_option maxRecDepth 100000 in
set_option maxHeartbeats 1000000 in
theorem Grow_nil (w : World) (n : Nat) (h0 : 0 < n) (hn : n ≤ 100000) :
    Calls Tryz.prog 84 #[.slice none 0 0, .int .i64 n] w fun e w' => ∃ c, e = .returned (.slice (some ⟨w.heap.size, 0, none⟩) 0 c) ∧ w'.ownsRow w.heap.size 5 1 (.slice (some ⟨w.heap.size, 0, none⟩) 0 c) 0 [] ∧ Keeps [] w w' := by
  obtain ⟨i0, hi, hz0, hz1, hz2⟩ := info_parts infoByte
  have hG := grownCap_ge w n 0 5
  have hGm := grownCap_le_maxLen w n 0 5 (by unfold maxLen; omega)
  have hr := fun ty => Lib.run_append_nil_zeros (P := Tryz.prog) w 23 3 ty 5 i0 (.int .u8 0) .i64 .i64 Tryz.underlying23 Tryz.underlying3 hi hz0 n h0 (by omega) (by omega) (by rw [hz2]; omega)
  generalize grownCap w n 0 5 = g at *
  have hg63 : g ≤ 9223372036854775807 := by unfold maxLen at hGm; omega
  have hn0 : (0 : Int) < (n : Int) := by omega
  go_enter Tryz.func84, Tryz.ntmps84
  go_wp2_with (at_builtin; refine Lib.wpList_append_run _ rfl _ _ _ _ rfl _ _ rfl rfl _ _ (hr _) ?_)
  go_ret
  have hz := zero_cells
  have hw : Whole (w.alloc (.cells (Builtin.zeroCells #[Value.int IntKind.u8 0] n ++ Builtin.zeroCells #[Value.int IntKind.u8 0] (g - n)) 5)).drew w.heap.size 5 ([] ++ List.replicate g (Value.int .u8 0)) := by
    have h := Whole.new w 5 (List.replicate n (Value.int .u8 0) ++ List.replicate (g - n) (Value.int .u8 0))
    rw [List.replicate_append_replicate, show n + (g - n) = g by omega] at h
    rw [hz, hz, List.append_toArray, List.replicate_append_replicate, show n + (g - n) = g by omega]
    exact h.keeps (Keeps.drew [] _) (by simp)
  exact ⟨g, rfl, hw.owns (Nat.le_refl _) rfl (by simp) hGm, (Keeps.alloc [] w _).trans (Keeps.drew _ _)⟩

/-- Slices of bytes that lie one behind the other. -/
structure Laid (w : World) (P : Nat) (vs : List Value) (ls : List (List UInt8)) : Prop where
  len : vs.length = ls.length
  cell : ∀ (i : Nat) (u : Value), vs[i]? = some u → w.cell? ⟨P, i, none⟩ = some u
  reads : ∀ (i : Nat) (u : Value) (l : List UInt8), vs[i]? = some u → ls[i]? = some l → ∃ M, Reads w u l M ∧ M < w.heap.size
  lt : P < w.heap.size

theorem Laid.keeps {S : List Nat} {w w' : World} {P : Nat} {vs : List Value} {ls : List (List UInt8)} (h : Laid w P vs ls) (hk : Keeps S w w') (hS : ∀ x ∈ S, w.heap.size ≤ x) : Laid w' P vs ls := by
  have hn : ∀ M, M < w.heap.size → M ∉ S := fun M hM hm => by have := hS M hm; omega
  refine ⟨h.len, fun i u hu => hk.cell (h.cell i u hu) (hn _ h.lt), fun i u l hu hl => ?_, by have := hk.size; have := h.lt; omega⟩
  obtain ⟨M, hr, hM⟩ := h.reads i u l hu hl
  exact ⟨M, hr.keeps hk (hn _ hM), by have := hk.size; omega⟩

theorem flatten_take (ls : List (List UInt8)) (k : Nat) (l : List UInt8) (h : ls[k]? = some l) : (ls.take (k + 1)).flatten = (ls.take k).flatten ++ l := by
  rw [List.take_add_one, h]; simp

/-- The first k of them, one behind the other; how many bytes these have. -/
def flatL (ls : List (List UInt8)) (k : Nat) : List UInt8 := (ls.take k).flatten
def flatN (ls : List (List UInt8)) (k : Nat) : Nat := (flatL ls k).length

theorem flatL_succ (ls : List (List UInt8)) (k : Nat) (l : List UInt8) (h : ls[k]? = some l) : flatL ls (k + 1) = flatL ls k ++ l := flatten_take ls k l h
theorem flatN_succ (ls : List (List UInt8)) (k : Nat) (l : List UInt8) (h : ls[k]? = some l) : flatN ls (k + 1) = flatN ls k + l.length := by
  unfold flatN; rw [flatL_succ ls k l h, List.length_append]
theorem flatL_all (ls : List (List UInt8)) (k : Nat) (h : ls.length ≤ k) : flatL ls k = ls.flatten := by unfold flatL; rw [List.take_of_length_le h]
theorem flatN_le (ls : List (List UInt8)) (k : Nat) : flatN ls k ≤ ls.flatten.length := by
  have h : ls.flatten = (ls.take k).flatten ++ (ls.drop k).flatten := by rw [← List.flatten_append, List.take_append_drop]
  rw [h, List.length_append]; unfold flatN flatL; omega

set_option maxRecDepth 100000 in
set_option maxHeartbeats 1000000 in
theorem Concat_any (w : World) (P : Nat) (vs : List Value) (ls : List (List UInt8)) (n cap T : Nat) (hn : ls.length = n) (hL : Laid w P vs ls) (hT : ls.flatten.length = T) (h0 : 0 < T) (h1 : T ≤ 100000) (h2 : n ≤ 1000) :
    Calls Tryz.prog 55 #[.slice (some ⟨P, 0, none⟩) n cap] w fun e w' => ∃ v, e = .returned v ∧ w'.ownsRow w.heap.size 5 1 v T (ls.flatten.map bv) ∧ Keeps [] w w' := by
  have HN := Lib.hid hn
  have HL := Lib.hid hL
  have HT := Lib.hid hT
  have h10 : 0 ≤ (T : Int) := by omega
  clear hn hL hT
  go_enter Tryz.func55, Tryz.ntmps55
  go_wp2
  go_loop [3, 11] (fun s i => ∃ k : Nat, k ≤ n ∧ i = .int .i64 k ∧ s = .int .i64 (flatN ls k)) (fun _ i => n - (intOf i).toNat)
  case atStart => exact ⟨0, Nat.zero_le _, rfl, rfl⟩
  case round =>
    obtain ⟨k, hk, rfl, rfl⟩ := hrel
    by_cases hlt : k < n
    · obtain ⟨l, hl⟩ : ∃ l, ls[k]? = some l := ⟨_, List.getElem?_eq_getElem (by rw [HN.out]; exact hlt)⟩
      obtain ⟨u, hu⟩ : ∃ u, vs[k]? = some u := ⟨_, List.getElem?_eq_getElem (by rw [HL.out.len, HN.out]; exact hlt)⟩
      have hc := HL.out.cell k u hu
      obtain ⟨M, hr, hM⟩ := HL.out.reads k u l hu hl
      obtain ⟨a, c, rfl, hlc⟩ := hr.shape
      have hf := flatN_succ ls k l hl
      have hle := flatN_le ls (k + 1)
      have HF := Lib.hid hf
      have hb : flatN ls k + l.length ≤ 100000 := by rw [HT.out] at hle; omega
      clear hf hl hu hr hle
      generalize flatN ls k = s0 at *
      generalize l.length = l0 at *
      go_wp2
      go_round
      case rel => exact ⟨k + 1, by omega, by go_num, by rw [HF.out]; go_num⟩
      case measure => simp [intOf]; omega
    · have hkn : k = n := by omega
      subst hkn
      have hall : flatN ls k = T := by unfold flatN; rw [flatL_all ls k (by rw [HN.out]; omega), HT.out]
      rw [hall]
      clear hall hlt hk
      go_wp2_with (go_at_call 84; refine (Grow_nil _ _ h0 h1).mono ?_; rintro e w1 ⟨c, rfl, ho, k1⟩; have HO := Lib.hid ho; have K1 := Lib.hid k1; clear ho k1)
      go_loopw [6, 27] (fun v i wr => ∃ (k' : Nat) (ao : Option Addr) (cp : Nat), k' ≤ k ∧ i = .int .i64 k' ∧ v = .slice ao (flatN ls k') cp ∧ wr.ownsRow w.heap.size 5 1 (.slice ao (flatN ls k') cp) (flatL ls k').length ((flatL ls k').map bv) ∧ Keeps [] w wr) (fun _ i _ => k - (intOf i).toNat)
      case atStart => exact ⟨0, _, _, Nat.zero_le _, rfl, rfl, HO.out, K1.out⟩
      case round =>
        obtain ⟨k', ao, cp, hk, rfl, rfl, ho, kp⟩ := hrel
        have HO' := Lib.hid ho
        have KP := Lib.hid kp
        clear ho kp
        by_cases hlt : k' < k
        · obtain ⟨l, hl⟩ : ∃ l, ls[k']? = some l := ⟨_, List.getElem?_eq_getElem (by rw [HN.out]; exact hlt)⟩
          obtain ⟨u, hu⟩ : ∃ u, vs[k']? = some u := ⟨_, List.getElem?_eq_getElem (by rw [HL.out.len, HN.out]; exact hlt)⟩
          have HLr := Lib.hid (HL.out.keeps KP.out (by simp))
          have hc := HLr.out.cell k' u hu
          obtain ⟨M, hr, hM⟩ := HLr.out.reads k' u l hu hl
          have hle := flatN_le ls (k' + 1)
          rw [flatN_succ ls k' l hl, HT.out] at hle
          have HF := Lib.hid (flatL_succ ls k' l hl)
          have HFN := Lib.hid (show (flatL ls k' ++ l).length = flatN ls (k' + 1) by unfold flatN; rw [flatL_succ ls k' l hl])
          have HLE := Lib.hid (show (flatL ls k').length + l.length ≤ 1000000 by unfold flatN at hle; omega)
          obtain ⟨a, c, rfl, hlc⟩ := hr.shape
          have HR := Lib.hid hr
          have HSZ := Lib.hid KP.out.size
          clear hl hu hr hle
          go_wp2_with (at_builtin; refine wpList_append_reads rfl _ _ rfl w.heap.size (.slice ao (flatN ls k') cp) (flatL ls k') rfl HO'.out (.slice a l.length c) l M rfl HR.out HLE.out HSZ.out ?_; intro v3 w3 hown3 hk3; have HO3 := Lib.hid hown3; have HG3 := Lib.hid hk3; clear hown3 hk3)
          have KP3 := Lib.hid (KP.out.ownedK HO'.out HG3.out)
          rw [HFN.out] at HO3
          obtain ⟨ao3, cp3, rfl⟩ := owns_shape2 HO3.out
          refine ⟨⟨k' + 1, ao3, cp3, by omega, by go_num, rfl, ?_, KP3.out⟩, by simp [intOf]; omega⟩
          rw [HF.out, HFN.out]
          exact HO3.out
        · have hkn : k' = k := by omega
          subst hkn
          have hall : flatL ls k' = ls.flatten := flatL_all ls k' (by rw [HN.out]; omega)
          rw [hall, HT.out] at HO'
          clear hall hlt hk
          go_wp2
          go_ret
          exact ⟨_, rfl, HO'.out, KP.out⟩

theorem World.ownsRow.mono {w : World} {base base' : Nat} {T : TypeId} {size n : Nat} {v : Value} {xs : List Value} (h : w.ownsRow base T size v n xs) (hb : base' ≤ base) : w.ownsRow base' T size v n xs := by
  obtain ⟨hl, h2⟩ := h
  refine ⟨hl, ?_⟩
  rcases h2 with h2 | ⟨g, cap, cur, rfl, hb', hg, hr⟩
  · exact .inl h2
  · exact .inr ⟨g, cap, cur, rfl, by omega, hg, hr⟩

theorem recB_flatten (p : List UInt8) : [headB p.length, bodyB p, [0, 0, 0, 0]].flatten = recB p := by simp [recB]

theorem Laid.three {w : World} {P : Nat} {T : TypeId} {v0 v1 v2 : Value} {l0 l1 l2 : List UInt8} {b0 b1 b2 : Nat} (hw : Whole w P T [v0, v1, v2]) (h0 : New b0 w v0 l0) (h1 : New b1 w v1 l1) (h2 : New b2 w v2 l2) : Laid w P [v0, v1, v2] [l0, l1, l2] where
  len := rfl
  cell i u hu := by rw [hw.cell]; exact hu
  reads i u l hu hl := by
    match i, hu, hl with
    | 0, hu, hl => simp at hu hl; subst hu hl; obtain ⟨M, hr, _, hM⟩ := h0; exact ⟨M, hr, hM⟩
    | 1, hu, hl => simp at hu hl; subst hu hl; obtain ⟨M, hr, _, hM⟩ := h1; exact ⟨M, hr, hM⟩
    | 2, hu, hl => simp at hu hl; subst hu hl; obtain ⟨M, hr, _, hM⟩ := h2; exact ⟨M, hr, hM⟩
    | i + 3, hu, hl => simp at hu
  lt := hw.lt

set_option maxRecDepth 100000 in
set_option maxHeartbeats 2000000 in
theorem bytesOf_any (w : World) (pv : Value) (p : List UInt8) (Mp : Nat) (rp : Reads w pv p Mp) (hp : p.length ≤ 4080) :
    Calls Tryz.prog 111 #[pv] w fun e w' => ∃ v, e = .returned v ∧ w'.ownsRow w.heap.size 5 1 v (sizeN p.length) ((recB p).map bv) ∧ Keeps [] w w' := by
  have RP := Lib.hid rp
  clear rp
  go_enter Tryz.func111, Tryz.ntmps111
  go_wp2_with fail
  refine (parts_any _ _ p Mp RP.out hp).mono ?_
  rintro e w2 ⟨v0, v1, v2, rfl, n0, n1, n2, k2⟩
  obtain ⟨a0, c0, rfl, _⟩ := n0.shape
  obtain ⟨a1, c1, rfl, _⟩ := n1.shape
  obtain ⟨a2, c2, rfl, _⟩ := n2.shape
  have W2 := Lib.hid (show Whole (w2.alloc (.cells #[.slice none 0 0, .slice none 0 0, .slice none 0 0] 132)) w2.heap.size 132 [.slice none 0 0, .slice none 0 0, .slice none 0 0] from Whole.new w2 _ [_, _, _])
  go_upto_region 2 with (first | (refine wpList_store_row rfl 132 _ _ rfl w2.heap.size #[.slice a0 (headB p.length).length c0, .slice a1 (bodyB p).length c1, .slice a2 [0, 0, 0, (0 : UInt8)].length c2] rfl rfl 132 #[.slice none 0 0, .slice none 0 0, .slice none 0 0] W2.out (by rw [szParts]; rfl) rfl (parts_one _ _ _ _ _ _ _ _ _) ?_))
  generalize hV : World.setRow _ _ _ = V
  have kV : Keeps [] w2 V := by
    rw [← hV]
    exact (Keeps.alloc [] w2 _).then (Keeps.setRow (S := [w2.heap.size]) _ (by simp) _) (fun x hx => .inr (by simp at hx; omega))
  have wV : Whole V w2.heap.size 132 [.slice a0 (headB p.length).length c0, .slice a1 (bodyB p).length c1, .slice a2 [0, 0, 0, (0 : UInt8)].length c2] := by
    rw [← hV]; exact W2.out.setRow [_, _, _]
  have hl := Laid.three wV (n0.keeps kV (by simp)) (n1.keeps kV (by simp)) (n2.keeps kV (by simp))
  have hT : [headB p.length, bodyB p, [0, 0, 0, 0]].flatten.length = sizeN p.length := by rw [recB_flatten, recB_length]
  have hs := fillN_lt p.length
  have hC := Concat_any V w2.heap.size _ _ 3 3 (sizeN p.length) rfl hl hT (by unfold sizeN; omega) (by unfold sizeN; omega) (by omega)
  have HC := Lib.hid hC
  have KV := Lib.hid (k2.trans kV)
  clear hV hC hl hT n0 n1 n2 W2 kV wV k2
  go_wp2_with (go_at_call 55; refine HC.out.mono ?_; rintro e w3 ⟨v, rfl, ho, k3⟩)
  rw [recB_flatten] at ho
  have hs := KV.out.size
  have HO := Lib.hid (World.ownsRow.mono ho hs)
  have K3 := Lib.hid (KV.out.trans k3)
  clear ho k3
  go_wp2
  go_ret
  exact ⟨_, rfl, HO.out, K3.out⟩

end Go.Proofs.YtlnmbfddhdjioaaGreat

namespace Go.Proofs.YtlnmbfddhdjioaaGreat
open Go.RowKit

theorem written_next (b : List UInt8) (k : Nat) (hk : 0 < k) (hb : blank (b.drop k)) (c : UInt8) (hc : b[k - 1]? = some c) : (c = 255 → blank (b.drop (k - 1))) ∧ (c ≠ 255 → writtenN b = k) := by
  have hlt : k - 1 < b.length := (List.getElem?_eq_some_iff.1 hc).1
  have hd : b.drop (k - 1) = c :: b.drop k := by
    rw [List.drop_eq_getElem_cons hlt, (List.getElem?_eq_some_iff.1 hc).2, show k - 1 + 1 = k by omega]
  constructor
  · rintro rfl x hx
    rw [hd] at hx
    rcases List.mem_cons.1 hx with h | h
    · exact h
    · exact hb x h
  · intro hne
    have h1 := (blank_drop b k).1 hb
    by_cases h2 : writtenN b ≤ k - 1
    · exact absurd ((blank_drop b (k - 1)).2 h2 c (by rw [hd]; simp)) hne
    · omega

set_option maxRecDepth 100000 in
set_option maxHeartbeats 1000000 in
theorem written_any (w : World) (v : Value) (b : List UInt8) (M : Nat) (h : Reads w v b M) (hl : b.length ≤ 100000) :
    Calls Tryz.prog 93 #[v] w fun e w' => e = .returned (.int .i64 (writtenN b)) ∧ w = w' := by
  obtain ⟨a, cap, rfl, hcap⟩ := h.shape
  have HR := Lib.hid h
  obtain ⟨n, hn⟩ : ∃ n, n = b.length := ⟨_, rfl⟩
  rw [← hn] at hl hcap ⊢
  have HN := Lib.hid hn
  clear h hn
  go_enter Tryz.func93, Tryz.ntmps93
  go_wp2
  go_loop [3] (fun s => ∃ k : Nat, k ≤ n ∧ s = .int .i64 k ∧ Hid (blank (b.drop k))) (fun s => (intOf s).toNat)
  case atStart => exact ⟨n, Nat.le_refl _, rfl, Lib.hid (by rw [List.drop_of_length_le (by rw [HN.out]; exact Nat.le_refl _)]; intro c hc; cases hc)⟩
  case round =>
    obtain ⟨k, hk, rfl, hb⟩ := hrel
    by_cases h0 : 0 < k
    · have hkb : k - 1 < b.length := by have := HN.out; omega
      obtain ⟨c, hc⟩ : ∃ c, b[k - 1]? = some c := ⟨_, List.getElem?_eq_getElem hkb⟩
      obtain ⟨off, cap', hv, _, hcell⟩ := HR.out.at (by intro e; subst e; simp at hkb)
      obtain ⟨hv1, rfl⟩ : a = some ⟨M, off, none⟩ ∧ cap = cap' := by simpa [HN.out] using hv
      subst hv1
      have hce := hcell _ c hc
      have HNX := Lib.hid (written_next b k h0 hb.out c hc)
      have e1 : ((k : Int) - 1).toNat = k - 1 := by omega
      have e2 : (0 : Int) ≤ (k : Int) - 1 := by omega
      have e3 : (k : Int) - 1 < (n : Int) := by omega
      have e4 : (0 : Int) < (k : Int) := by omega
      have e5 : off + (k - 1) = off + k - 1 := by omega
      unfold bv at hce
      clear hv hkb hc hcell
      by_cases hc255 : c = 255
      · have hcc : (((c.toNat : Int) == 255) : Bool) = true := by rw [hc255]; rfl
        clear e5
        go_wp2
        go_round
        case rel => exact ⟨k - 1, by omega, by congr 1; omega, Lib.hid (HNX.out.1 hc255)⟩
        case measure => simp [intOf]; omega
      · have hcc : (((c.toNat : Int) == 255) : Bool) = false := by
          simp only [beq_eq_false_iff_ne, ne_eq]
          intro e; apply hc255; apply UInt8.toNat_inj.1; show c.toNat = 255; omega
        clear e5
        go_wp2
        go_ret
        exact ⟨ret_int (by rw [HNX.out.2 hc255]), rfl⟩
    · obtain rfl : k = 0 := by omega
      have hw0 := (blank_drop b 0).1 hb.out
      go_wp2
      go_ret
      exact ⟨ret_int (by omega), rfl⟩

set_option maxHeartbeats 400000 in
theorem Equal_any (w : World) (va vb : Value) (a b : List UInt8) (Ma Mb : Nat) (ha : Reads w va a Ma) (hb : Reads w vb b Mb) :
    Calls Tryz.prog 52 #[va, vb] w fun e w' => e = .returned (.bool (a == b)) ∧ w = w' := by
  have h1 := conv_reads ha
  have h2 := conv_reads hb
  clear ha hb
  go_enter Tryz.func52, Tryz.ntmps52
  go_wp2
  go_ret
  exact ⟨rfl, rfl⟩

set_option maxHeartbeats 400000 in
theorem HasPrefix_ge (w : World) (va vb : Value) (a b : List UInt8) (Ma Mb : Nat) (ha : Reads w va a Ma) (hb : Reads w vb b Mb) (hab : b.length ≤ a.length) :
    Calls Tryz.prog 110 #[va, vb] w fun e w' => e = .returned (.bool (a.take b.length == b)) ∧ w = w' := by
  obtain ⟨aa, ca, rfl, hca⟩ := ha.shape
  obtain ⟨ab, cb, rfl, hcb⟩ := hb.shape
  obtain ⟨p, c, hcut, hr⟩ := ha.head b.length hab
  have hlen : (a.take b.length).length = b.length := by simp; omega
  rw [hlen] at hcut hr
  have HE := Lib.hid (Equal_any w _ _ _ _ _ _ hr hb)
  clear ha hb hr hlen
  have hge : decide ((b.length : Int) ≤ (a.length : Int)) = true := by simp; omega
  have hge2 : decide (b.length ≤ a.length) = true := by simp; omega
  generalize b.length = nb at *
  generalize a.length = na at *
  go_enter Tryz.func110, Tryz.ntmps110
  go_wp2_with (go_at_call 52; refine HE.out.mono ?_; rintro e w' ⟨rfl, rfl⟩)
  go_ret
  exact ⟨rfl, rfl⟩
end Go.Proofs.YtlnmbfddhdjioaaGreat
