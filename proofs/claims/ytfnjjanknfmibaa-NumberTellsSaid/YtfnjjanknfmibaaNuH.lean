/-
  Package number: Text.
-/
import Derived.Test.YtfnjjanknfmibaaNuG
namespace Go.Proofs.Ytfnjjanknfmibaa
open Go.RowKit Go.Deep
set_option linter.unusedVariables false

theorem owns_some {w : World} {base : Nat} {e : TypeId} {size n : Nat} {v : Value} {xs : List Value} (h : w.ownsRow base e size v n xs) (hn : n ≠ 0) : ∃ g cap, v = .slice (some ⟨g, 0, none⟩) n cap ∧ base ≤ g := by
  rcases h.2 with ⟨_, h0⟩ | ⟨g, cap, cur, hv, hb, _⟩
  · exact absurd h0 hn
  · exact ⟨g, cap, hv, hb⟩

theorem nText_none (w : World) (lo hi : Int) (b : Nat) (sg : Bool) (hb : ¬ (2 ≤ b ∧ b ≤ 36)) :
    Calls Try.prog 30 #[.int .u32 lo, .int .u32 hi, .int .u32 (b : Int), .bool sg] w fun e w' => e = .returned (.tuple #[str [], .bool false]) ∧ w = w' := by
  have HB := Lib.hid (nIsBase_any w b)
  rw [decide_eq_false hb] at HB
  clear hb
  go_enter Try.func30, Try.ntmps30
  go_wp2_with (go_at_call 45; refine HB.out.mono ?_; rintro e w' ⟨rfl, rfl⟩)
  exact bodyPost_ret (v := .tuple #[.string ⟨#[]⟩, .bool false]) (by simp [results, Try.results30, go_sem]) rfl ⟨rfl, rfl⟩

set_option maxRecDepth 100000 in
set_option maxHeartbeats 1000000 in
theorem nText_plain (w : World) (lo hi b N : Nat) (hb : 2 ≤ b ∧ b ≤ 36) (hN : N < 18446744073709551616) (hlo : lo = N % 4294967296) (hhi : hi = N / 4294967296) (sg : Bool) (hs : sg = false ∨ hi < 2147483648) :
    Calls Try.prog 30 #[.int .u32 (lo : Int), .int .u32 (hi : Int), .int .u32 (b : Int), .bool sg] w fun e w' => e = .returned (.tuple #[str (digs b N).reverse, .bool true]) ∧ Keeps [] w w' := by
  have HB := Lib.hid (nIsBase_any w b)
  rw [decide_eq_true hb] at HB
  have HL := Lib.hid (nLastFirst_any w N b lo hi hb hN hlo hhi)
  have hlen : (digs b N).length ≤ 64 := digsF_len b 64 N
  have hne := digs_ne b N
  have hh : (hi : Int) < 4294967296 := by omega
  generalize digs b N = l at *
  have HLN := Lib.hid (And.intro hlen hne)
  clear hb hN hlo hhi hlen hne
  have hsg : (sg = false) ∨ (sg = true ∧ IntKind.i32.wrap (hi : Int) = (hi : Int) ∧ hi < 2147483648) := by
    cases sg
    · exact .inl rfl
    · right
      rcases hs with h | h
      · cases h
      · exact ⟨rfl, by rw [IntKind.wrap_i32]; omega, h⟩
  clear hs
  rcases hsg with rfl | ⟨rfl, hw, hlt⟩
  · go_enter Try.func30, Try.ntmps30
    go_upto_region 9 with (first
      | (go_at_call 45; refine HB.out.mono ?_; rintro e w' ⟨rfl, rfl⟩)
      | (go_at_call 58; refine HL.out.mono ?_; rintro e w1 ⟨v, rfl, ho, hk⟩; have HO := Lib.hid ho; have HK := Lib.hid hk; clear ho hk))
    obtain ⟨g, cap, rfl, hg⟩ := owns_some HO.out (by have := HLN.out.2; simpa using this)
    have HRV := Lib.hid (nReverse_any w1 w.heap.size g cap l (by have := HLN.out.1; omega) HO.out)
    go_upto_region 10 with (go_at_call 59; refine HRV.out.mono ?_; rintro e w2 ⟨rfl, ho, hk⟩; have HO2 := Lib.hid ho; have HK2 := Lib.hid hk; clear ho hk)
    have hO2 := HO2.out
    rw [← List.length_reverse] at hO2
    obtain ⟨M, hrd, _⟩ := owns_reads hO2 (by have := HK2.out.size; have := HK.out.size; have := (HO.out.lt g rfl).2; omega)
    have hcv := conv_reads hrd
    rw [List.length_reverse] at hcv
    have KE := Lib.hid (HK.out.then HK2.out (fun x hx => .inr (by simp at hx; omega)))
    clear hrd hO2
    generalize hL : l.length = n at *
    clear hL
    go_wp2
    exact bodyPost_ret (v := .tuple #[.string ⟨l.reverse.toArray⟩, .bool true]) (by simp [results, Try.results30, go_sem]) rfl ⟨rfl, KE.out⟩
  · have hlt2 : decide ((hi : Int) < 0) = false := decide_eq_false (by omega)
    clear hlt
    go_enter Try.func30, Try.ntmps30
    go_upto_region 9 with (first
      | (go_at_call 45; refine HB.out.mono ?_; rintro e w' ⟨rfl, rfl⟩)
      | (go_at_call 58; refine HL.out.mono ?_; rintro e w1 ⟨v, rfl, ho, hk⟩; have HO := Lib.hid ho; have HK := Lib.hid hk; clear ho hk))
    obtain ⟨g, cap, rfl, hg⟩ := owns_some HO.out (by have := HLN.out.2; simpa using this)
    have HRV := Lib.hid (nReverse_any w1 w.heap.size g cap l (by have := HLN.out.1; omega) HO.out)
    go_upto_region 10 with (go_at_call 59; refine HRV.out.mono ?_; rintro e w2 ⟨rfl, ho, hk⟩; have HO2 := Lib.hid ho; have HK2 := Lib.hid hk; clear ho hk)
    have hO2 := HO2.out
    rw [← List.length_reverse] at hO2
    obtain ⟨M, hrd, _⟩ := owns_reads hO2 (by have := HK2.out.size; have := HK.out.size; have := (HO.out.lt g rfl).2; omega)
    have hcv := conv_reads hrd
    rw [List.length_reverse] at hcv
    have KE := Lib.hid (HK.out.then HK2.out (fun x hx => .inr (by simp at hx; omega)))
    clear hrd hO2
    generalize hL : l.length = n at *
    clear hL
    go_wp2
    exact bodyPost_ret (v := .tuple #[.string ⟨l.reverse.toArray⟩, .bool true]) (by simp [results, Try.results30, go_sem]) rfl ⟨rfl, KE.out⟩

set_option maxRecDepth 100000 in
set_option maxHeartbeats 1000000 in
theorem nText_minus (w : World) (lo hi b N : Nat) (hb : 2 ≤ b ∧ b ≤ 36) (hN : N < 18446744073709551616) (hlo : lo = N % 4294967296) (hhi : hi = N / 4294967296) (hs : 2147483648 ≤ hi) (Z : Nat) (hZ : Z = negN N) :
    Calls Try.prog 30 #[.int .u32 (lo : Int), .int .u32 (hi : Int), .int .u32 (b : Int), .bool true] w fun e w' => e = .returned (.tuple #[str (45 :: (digs b Z).reverse), .bool true]) ∧ Keeps [] w w' := by
  have HB := Lib.hid (nIsBase_any w b)
  rw [decide_eq_true hb] at HB
  have hneg := neg_or N hN
  rw [← hZ] at hneg
  have hZ64 : Z < 18446744073709551616 := by omega
  obtain ⟨p, hp⟩ : ∃ p, p = Z % 4294967296 := ⟨_, rfl⟩
  obtain ⟨q, hq⟩ : ∃ q, q = Z / 4294967296 := ⟨_, rfl⟩
  have HNG := Lib.hid (cNeg_to w N hN lo hi hlo hhi p q (by rw [hp, hZ]) (by rw [hq, hZ]))
  have HL := Lib.hid (nLastFirst_any w Z b p q hb hZ64 hp hq)
  have hlen : (digs b Z).length ≤ 64 := digsF_len b 64 _
  clear hZ hZ64
  generalize digs b Z = l at *
  have HLN := Lib.hid hlen
  have hw : IntKind.i32.wrap (hi : Int) = (hi : Int) - 4294967296 := by rw [IntKind.wrap_i32]; omega
  have hlt2 : decide ((hi : Int) - 4294967296 < 0) = true := decide_eq_true (by omega)
  have hlt3 : (hi : Int) < 4294967296 := by omega
  clear hb hN hlo hhi hlen hp hq hneg hs
  go_enter Try.func30, Try.ntmps30
  go_upto_region 9 with (first
    | (go_at_call 45; refine HB.out.mono ?_; rintro e w' ⟨rfl, rfl⟩)
    | (go_at_call 50; refine HNG.out.mono ?_; rintro e w' ⟨rfl, rfl⟩)
    | (go_at_call 58; refine HL.out.mono ?_; rintro e w1 ⟨v, rfl, ho, hk⟩; have HO := Lib.hid ho; have HK := Lib.hid hk; clear ho hk)
    | (at_builtin; refine wpList_append_bb rfl _ _ rfl w.heap.size v l rfl (World.ownsRow.keeps HO.out (Keeps.alloc [] _ _) (fun _ _ => List.not_mem_nil)) _ [45] w1.heap.size rfl (Reads.lit w1 [45] _ 5 1 (0, 0) rfl rfl) (by have := HLN.out; simp; omega) (by have := HK.out.size; simp; omega) ?_; intro v5 w5 ho5 hk5 hn5; have HO5 := Lib.hid ho5; have HK5 := Lib.hid hk5; clear ho5 hk5 hn5))
  have HL2 := Lib.hid (show (l ++ [45]).length ≤ 65 ∧ (l ++ [45]).length ≠ 0 ∧ (l ++ [45]).reverse = 45 :: l.reverse by have := HLN.out; simp; omega)
  generalize l ++ [45] = l2 at *
  obtain ⟨g, cap, rfl, hg⟩ := owns_some HO5.out HL2.out.2.1
  have HRV := Lib.hid (nReverse_any w5 w.heap.size g cap l2 (by have := HL2.out.1; omega) HO5.out)
  have KV := Lib.hid ((HK.out.trans (Keeps.alloc [] w1 _)).then HK5.out (fun x hx => .inr (by simp at hx; exact (HO.out.lt x hx).1)))
  go_upto_region 10 with (go_at_call 59; refine HRV.out.mono ?_; rintro e w2 ⟨rfl, ho, hk⟩; have HO2 := Lib.hid ho; have HK2 := Lib.hid hk; clear ho hk)
  have hO2 := HO2.out
  rw [← List.length_reverse] at hO2
  obtain ⟨M, hrd, _⟩ := owns_reads hO2 (by have := HK2.out.size; have := (HO5.out.lt g rfl).2; omega)
  have hcv := conv_reads hrd
  rw [List.length_reverse] at hcv
  have KE := Lib.hid (KV.out.then HK2.out (fun x hx => .inr (by simp at hx; omega)))
  rw [HL2.out.2.2] at hcv
  clear hrd hO2
  generalize hL : l2.length = n at *
  clear hL
  go_wp2
  exact bodyPost_ret (v := .tuple #[.string ⟨(45 :: l.reverse).toArray⟩, .bool true]) (by simp [results, Try.results30, go_sem]) rfl ⟨rfl, KE.out⟩

/-- Text, whatever is asked of a base that is one. -/
theorem nText_ok (w : World) (lo hi b N : Nat) (hb : 2 ≤ b ∧ b ≤ 36) (hN : N < 18446744073709551616) (hlo : lo = N % 4294967296) (hhi : hi = N / 4294967296) (sg : Bool) (mi : Bool) (hm : mi = (sg && decide (2147483648 ≤ hi))) :
    Calls Try.prog 30 #[.int .u32 (lo : Int), .int .u32 (hi : Int), .int .u32 (b : Int), .bool sg] w fun e w' => e = .returned (.tuple #[str (textN b (if mi then negN N else N) mi), .bool true]) ∧ Keeps [] w w' := by
  subst hm
  cases sg with
  | false => exact nText_plain w lo hi b N hb hN hlo hhi false (.inl rfl)
  | true =>
    by_cases h : 2147483648 ≤ hi
    · rw [Bool.true_and, decide_eq_true h]
      exact nText_minus w lo hi b N hb hN hlo hhi h _ rfl
    · rw [Bool.true_and, decide_eq_false h]
      exact nText_plain w lo hi b N hb hN hlo hhi true (.inr (by omega))
end Go.Proofs.Ytfnjjanknfmibaa
