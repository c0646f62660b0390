/-
  Package number: the digits, the last one first; bytes reversed.
-/
import Derived.Test.YtfnjjanknfmibaaNuE
import Derived.Test.YtfnjjanknfmibaaAppBB
import Derived.Laws.OwnMore
namespace Go.Proofs.Ytfnjjanknfmibaa
open Go.RowKit Go.Deep
set_option linter.unusedVariables false

set_option maxRecDepth 100000 in
set_option maxHeartbeats 1000000 in
theorem nStep_none (w : World) (lo hi : Int) (b : Nat) (hb : ¬ (2 ≤ b ∧ b ≤ 36)) :
    Calls Try.prog 28 #[.int .u32 lo, .int .u32 hi, .int .u32 (b : Int)] w fun e w' => e = .returned (.tuple #[.int .u32 0, .int .u32 0, .int .u8 0, .bool false]) ∧ w = w' := by
  have HB := Lib.hid (nIsBase_any w b)
  rw [decide_eq_false hb] at HB
  clear hb
  go_enter Try.func28, Try.ntmps28
  go_wp2_with (go_at_call 45; refine HB.out.mono ?_; rintro e w' ⟨rfl, rfl⟩)
  exact bodyPost_ret (v := .tuple #[.int .u32 0, .int .u32 0, .int .u8 0, .bool false]) (by simp [results, Try.results28, go_sem]) rfl ⟨rfl, rfl⟩

/-- A slice's length. -/
def lenOf : Value → Nat | .slice _ n _ => n | _ => 0
theorem owns_len {w : World} {base : Nat} {e : TypeId} {size n : Nat} {v : Value} {xs : List Value} (h : w.ownsRow base e size v n xs) : lenOf v = n := by
  rcases h.2 with ⟨rfl, h0⟩ | ⟨g, cap, cur, rfl, _⟩
  · exact h0.symm
  · rfl
theorem digs_begin (b N : Nat) : [] ++ digsF b 64 N = digs b N := by rw [List.nil_append, digs]

set_option maxRecDepth 100000 in
set_option maxHeartbeats 1000000 in
theorem nLastFirst_any (w : World) (N b lo0 hi0 : Nat) (hb : 2 ≤ b ∧ b ≤ 36) (hN : N < 18446744073709551616) (hlo : lo0 = N % 4294967296) (hhi : hi0 = N / 4294967296) :
    Calls Try.prog 58 #[.int .u32 (lo0 : Int), .int .u32 (hi0 : Int), .int .u32 (b : Int)] w fun e w' => ∃ v, e = .returned v ∧ w'.ownsRow w.heap.size 5 1 v (digs b N).length ((digs b N).map bv) ∧ Keeps [] w w' := by
  have HB := Lib.hid hb
  have HH := Lib.hid (And.intro hlo (And.intro hhi hN))
  clear hb hN hlo hhi
  go_enter Try.func58, Try.ntmps58
  go_wp2
  go_loopw [0, 1, 7] (fun lv hv dv wr => ∃ (P : List UInt8) (k n lo hi : Nat) (v : Value), v = dv ∧ lv = .int .u32 (lo : Int) ∧ hv = .int .u32 (hi : Int) ∧ Hid (lo = n % 4294967296 ∧ hi = n / 4294967296 ∧ n < 18446744073709551616 ∧ n < 2 ^ k ∧ 1 ≤ k ∧ P ++ digsF b k n = digs b N ∧ P.length + k ≤ 64) ∧ Hid (wr.ownsRow w.heap.size 5 1 v P.length (P.map bv)) ∧ Hid (Keeps [] w wr)) (fun _ _ dv _ => 64 - lenOf dv)
  case atStart => exact ⟨[], 64, N, lo0, hi0, _, rfl, rfl, rfl, ⟨HH.out.1, HH.out.2.1, HH.out.2.2, by have := HH.out.2.2; simpa using this, by decide, digs_begin b N, by decide⟩, World.ownsRow_nil _ _ _ _, Keeps.refl _ _⟩
  case round =>
    obtain ⟨P, k, n, lo, hi, v, rfl, rfl, rfl, HN, HO, HK⟩ := hrel
    obtain ⟨l1, hl1⟩ : ∃ l1, l1 = n / b % 4294967296 := ⟨_, rfl⟩
    obtain ⟨h1, hh1⟩ : ∃ h1, h1 = n / b / 4294967296 := ⟨_, rfl⟩
    obtain ⟨c, hc⟩ : ∃ c, c = letN (n % b) := ⟨_, rfl⟩
    have hq : n / b ≤ n := Nat.div_le_self _ _
    have HST := Lib.hid (nStep_ok wr lo hi b HB.out (by have := HN.out; omega) (by have := HN.out; omega) n (by have := HN.out; omega) l1 h1 hl1 hh1 c hc)
    have HP := Lib.hid (show P.length ≤ 64 by have := HN.out; omega)
    have HLH := Lib.hid (And.intro hl1 (And.intro hh1 hc))
    have HQ := Lib.hid (show n / b < 18446744073709551616 from by have := HN.out; omega)
    have HZ := Lib.hid (show n / b = 0 ↔ l1 = 0 ∧ h1 = 0 by have := HQ.out; omega)
    clear hl1 hh1 hc hq
    unfold bv at HST
    by_cases hz : n / b = 0
    · have z := HZ.out.1 hz
      obtain ⟨rfl, rfl⟩ := z
      have HZ0 := Lib.hid hz
      clear hz HZ
      go_wp2_with (first
        | (go_at_call 28; refine HST.out.mono ?_; rintro e w1 ⟨rfl, hk1⟩; have HK1 := Lib.hid hk1; clear hk1)
        | (at_builtin; refine wpList_append_bb rfl _ _ rfl w.heap.size v P rfl (World.ownsRow.keeps (World.ownsRow.keeps HO.out HK1.out (fun _ _ => List.not_mem_nil)) (Keeps.alloc [] _ _) (fun _ _ => List.not_mem_nil)) _ [c] w1.heap.size rfl (Reads.lit w1 [c] _ 5 1 (0, 0) rfl rfl) (by have := HP.out; simp; omega) (by have := HK.out.size; have := HK1.out.size; simp; omega) ?_; intro v5 w5 ho5 hk5 hn5; have HO5 := Lib.hid ho5; have HK5 := Lib.hid hk5; clear ho5 hk5 hn5))
      go_ret
      have e : P ++ [c] = digs b N := by
        rw [← HN.out.2.2.2.2.2.1, HLH.out.2.2]
        have hk := HN.out.2.2.2.2.1
        cases k with
        | zero => omega
        | succ k => show _ = P ++ (letN (n % b) :: if n / b = 0 then [] else digsF b k (n / b)); rw [if_pos HZ0.out]
      exact ⟨v5, rfl, by rw [← e]; exact HO5.out, ((HK.out.trans HK1.out).trans (Keeps.alloc [] _ _)).then HK5.out (fun x hx => .inr (by simp at hx; exact (HO.out.lt x hx).1))⟩
    · have HZ0 := Lib.hid hz
      have HM := Lib.hid (show n / b < n from Nat.div_lt_self (by rcases Nat.eq_zero_or_pos n with h | h; exact absurd (by rw [h]; simp) hz; exact h) (by have := HB.out; omega))
      have zz : l1 ≠ 0 ∨ h1 ≠ 0 := by
        by_cases h : l1 = 0
        · exact .inr fun h2 => hz (HZ.out.2 ⟨h, h2⟩)
        · exact .inl h
      have HX := Lib.hid (show P ++ [c] ++ digsF b (k - 1) (n / b) = digs b N ∧ n / b < 2 ^ (k - 1) ∧ 1 ≤ k - 1 ∧ (P ++ [c]).length + (k - 1) ≤ 64 from by
        obtain ⟨_, _, _, a4, a5, a6, a7⟩ := HN.out
        cases k with
        | zero => omega
        | succ k =>
          have hlt : n / b < 2 ^ k := Nat.div_lt_of_lt_mul (by
            have : 2 * 2 ^ k ≤ b * 2 ^ k := Nat.mul_le_mul_right _ HB.out.1
            have e : 2 ^ (k + 1) = 2 * 2 ^ k := by rw [Nat.pow_succ]; omega
            omega)
          refine ⟨?_, hlt, ?_, by simp; omega⟩
          · rw [← a6, HLH.out.2.2]
            show _ = P ++ (letN (n % b) :: if n / b = 0 then [] else digsF b k (n / b))
            rw [if_neg hz]
            simp
          · cases k with
            | zero => exact absurd (Nat.lt_one_iff.1 hlt) hz
            | succ k => omega)
      clear hz HZ
      by_cases y : l1 = 0
      · subst y
        have y2 : ((h1 : Int) == 0) = false := by simp; omega
        clear zz
        go_wp2_with (first
          | (go_at_call 28; refine HST.out.mono ?_; rintro e w1 ⟨rfl, hk1⟩; have HK1 := Lib.hid hk1; clear hk1)
          | (at_builtin; refine wpList_append_bb rfl _ _ rfl w.heap.size v P rfl (World.ownsRow.keeps (World.ownsRow.keeps HO.out HK1.out (fun _ _ => List.not_mem_nil)) (Keeps.alloc [] _ _) (fun _ _ => List.not_mem_nil)) _ [c] w1.heap.size rfl (Reads.lit w1 [c] _ 5 1 (0, 0) rfl rfl) (by have := HP.out; simp; omega) (by have := HK.out.size; have := HK1.out.size; simp; omega) ?_; intro v5 w5 ho5 hk5 hn5; have HO5 := Lib.hid ho5; have HK5 := Lib.hid hk5; clear ho5 hk5 hn5))
        go_roundw
        case rel => exact ⟨P ++ [c], k - 1, n / b, 0, h1, v5, rfl, by first | rfl | trivial, rfl, ⟨HLH.out.1, HLH.out.2.1, HQ.out, HX.out.2.1, HX.out.2.2.1, HX.out.1, HX.out.2.2.2⟩, HO5.out, ((HK.out.trans HK1.out).trans (Keeps.alloc [] _ _)).then HK5.out (fun x hx => .inr (by simp at hx; exact (HO.out.lt x hx).1))⟩
        case measure =>
          rw [owns_len HO5.out, owns_len HO.out]
          have := HX.out.2.2
          simp at this ⊢
          omega
      · have y2 : ((l1 : Int) == 0) = false := by simp; omega
        clear zz y
        go_wp2_with (first
          | (go_at_call 28; refine HST.out.mono ?_; rintro e w1 ⟨rfl, hk1⟩; have HK1 := Lib.hid hk1; clear hk1)
          | (at_builtin; refine wpList_append_bb rfl _ _ rfl w.heap.size v P rfl (World.ownsRow.keeps (World.ownsRow.keeps HO.out HK1.out (fun _ _ => List.not_mem_nil)) (Keeps.alloc [] _ _) (fun _ _ => List.not_mem_nil)) _ [c] w1.heap.size rfl (Reads.lit w1 [c] _ 5 1 (0, 0) rfl rfl) (by have := HP.out; simp; omega) (by have := HK.out.size; have := HK1.out.size; simp; omega) ?_; intro v5 w5 ho5 hk5 hn5; have HO5 := Lib.hid ho5; have HK5 := Lib.hid hk5; clear ho5 hk5 hn5))
        go_roundw
        case rel => exact ⟨P ++ [c], k - 1, n / b, l1, h1, v5, rfl, rfl, rfl, ⟨HLH.out.1, HLH.out.2.1, HQ.out, HX.out.2.1, HX.out.2.2.1, HX.out.1, HX.out.2.2.2⟩, HO5.out, ((HK.out.trans HK1.out).trans (Keeps.alloc [] _ _)).then HK5.out (fun x hx => .inr (by simp at hx; exact (HO.out.lt x hx).1))⟩
        case measure =>
          rw [owns_len HO5.out, owns_len HO.out]
          have := HX.out.2.2
          simp at this ⊢
          omega
end Go.Proofs.Ytfnjjanknfmibaa
