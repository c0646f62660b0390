/-
  NumberBack, walked.
-/
import Derived.Test.YtfnjjanknfmibaaNuI
import Derived.Test.YtfnjjanknfmibaaNuRd
import Derived.Laws.Concat
namespace Go.Proofs.Ytfnjjanknfmibaa
open Go.RowKit Go.Deep
set_option linter.unusedVariables false

theorem add_strs (x y : List UInt8) (hx : x.length ≤ 100) (hy : y.length ≤ 100) (W : World) : (Op.stringOp .add (ByteArray.mk x.toArray) (ByteArray.mk y.toArray)).run Try.prog W = .ok (.string ⟨(x ++ y).toArray⟩) W := by
  rw [run_string_add_sum (P := Try.prog) (w := W) _ _ (by rw [str_size, str_size]; omega), ByteArray.mk_append_mk]

theorem low_pre (mi : Bool) (L : List UInt8) : ((if mi then [45] else []) ++ L).map lowC = (if mi then [45] else []) ++ L.map lowC := by
  cases mi
  · rfl
  · rfl
theorem low_nat (c : UInt8) : (lowC c).toNat = if 65 ≤ c.toNat ∧ c.toNat ≤ 90 then c.toNat + 32 else c.toNat := by
  unfold lowC
  split
  · next hc => rw [UInt8.toNat_add]; simp; omega
  · rfl

/-- How a number that is told is read again: T what is told, x, y, d, o what is read of it as it stands. -/
theorem back_told (b N lo hi : Nat) (mi : Bool) (hb : 2 ≤ b ∧ b ≤ 36) (hN : N < 18446744073709551616) (hlo : lo = N % 4294967296) (hhi : hi = N / 4294967296) (n : Nat) (hn : n = if mi then negN N else N) (T : List UInt8) (hT : T = textN b n mi) :
    readN (T ++ [46]) b = ⟨lo, hi, true, true⟩ ∧ readN (T.map lowC ++ [46]) b = ⟨lo, hi, true, true⟩ ∧ (n < 4294967296 → readN T b = ⟨lo, 0, false, true⟩) ∧ (4294967296 ≤ n → readN T b = ⟨0, 0, false, false⟩) ∧ T.length ≤ 65 ∧
      ∃ c, T[0]? = some c ∧ (c.toNat = 45 ↔ mi = true) := by
  have hn64 : n < 18446744073709551616 := by
    rw [hn]
    cases mi
    · exact hN
    · have := neg_or N hN
      show negN N < _
      omega
  obtain ⟨L, hL⟩ : ∃ L, L = (digs b n).reverse := ⟨_, rfl⟩
  have hT2 : T = (if mi then [45] else []) ++ L := by rw [hT, hL]; rfl
  have hd : DigL L := by rw [hL]; exact DigL.reverse (let_digL hb 64 n)
  have hv : valN b L = some n := by rw [hL]; exact digs_val b n hb hn64
  have hne : L ≠ [] := by rw [hL]; simpa using digs_ne b n
  have hl : L.length ≤ 64 := by rw [hL, List.length_reverse]; exact digsF_len b 64 n
  have hback : (if mi then negN n else n) = N := by
    rw [hn]
    cases mi
    · rfl
    · exact neg_neg N hN
  have hdv : readV true mi (some n) = ⟨lo, hi, true, true⟩ := by
    cases mi
    · rw [(readV_dbl n).1, hlo, hhi]
      have : n = N := hback
      rw [this]
    · rw [(readV_dbl n).2, hlo, hhi]
      have : negN n = N := hback
      rw [this]
  refine ⟨?_, ?_, ?_, ?_, ?_, ?_⟩
  · rw [hT2, List.append_assoc, read_dot b mi L hd hne, hv, hdv]
  · rw [hT2, low_pre, List.append_assoc, read_dot b mi _ hd.low (by simpa using hne), low_val, hv, hdv]
  · intro h
    rw [hT2, read_plain b mi L hd, hv]
    cases mi
    · rw [(readV_one n h).1, hlo]
      have : n = N := hback
      rw [this]
    · rw [(readV_one n h).2, hlo]
      have : negN n = N := hback
      rw [this]
  · intro h
    rw [hT2, read_plain b mi L hd, hv, readV_big mi n h]
  · rw [hT2]
    cases mi
    · simp; omega
    · simp; omega
  · rw [hT2]
    cases mi
    · cases L with
      | nil => exact absurd rfl hne
      | cons c u => exact ⟨c, rfl, by have := (hd c (List.mem_cons_self ..)).2.2.2.2.1; simp [this]⟩
    · exact ⟨45, rfl, by simp⟩

set_option maxRecDepth 100000 in
set_option maxHeartbeats 4000000 in
theorem NumberBack_any (w : World) (lo hi bs : Nat) (sg : Bool) (hlo : lo < 4294967296) (hhi : hi < 4294967296) (hbs : bs < 256) : Calls Try.prog 5 #[.int .u32 (lo : Int), .int .u32 (hi : Int), .int .u8 (bs : Int), .bool sg] w fun e w' => e = .returned (.bool true) ∧ Keeps [] w w' := by
  obtain ⟨b, hb⟩ : ∃ b, b = 2 + bs % 35 := ⟨_, rfl⟩
  have hb2 : 2 ≤ b ∧ b ≤ 36 := by omega
  have eb : 2 + (bs : Int) % 35 = (b : Int) := by omega
  obtain ⟨N, hN⟩ : ∃ N, N = hi * 4294967296 + lo := ⟨_, rfl⟩
  have hN64 : N < 18446744073709551616 := by omega
  obtain ⟨mi, hmi⟩ : ∃ mi, mi = (sg && decide (2147483648 ≤ hi)) := ⟨_, rfl⟩
  obtain ⟨n, hn⟩ : ∃ n, n = if mi then negN N else N := ⟨_, rfl⟩
  have HT := Lib.hid (nText_ok w lo hi b N hb2 hN64 (by omega) (by omega) sg mi hmi)
  rw [← hn] at HT
  obtain ⟨T, hT⟩ : ∃ T, T = textN b n mi := ⟨_, rfl⟩
  rw [← hT] at HT
  obtain ⟨r1, r2, r3, r4, hlen, c0, hc0, hc45⟩ := back_told b N lo hi mi hb2 hN64 (by omega) (by omega) n hn T hT
  have hmhi : mi = true → 2147483648 ≤ hi := by intro h; rw [h] at hmi; have := hmi.symm; simp at this; exact this.2
  have ways : (hi = 0 ∧ mi = false ∧ n < 4294967296) ∨ (hi ≠ 0 ∧ 4294967296 ≤ n) ∨ (hi ≠ 0 ∧ mi = true ∧ n < 4294967296) := by
    by_cases h0 : hi = 0
    · left
      cases mi
      · refine ⟨h0, rfl, ?_⟩
        have : n = N := hn
        omega
      · have := hmhi rfl; omega
    · right
      by_cases h1 : n < 4294967296
      · right
        cases mi
        · have : n = N := hn
          omega
        · exact ⟨h0, rfl, h1⟩
      · exact .inl ⟨h0, by omega⟩
  clear hn hT hmi hmhi hb hN hN64
  have HR1 := Lib.hid (fun W => nRead_any W (T ++ [46]) b (by unfold maxLen; simp; omega))
  have HR2 := Lib.hid (fun W => nRead_any W (T.map lowC ++ [46]) b (by unfold maxLen; simp; omega))
  have HR3 := Lib.hid (fun W => nRead_any W T b (by unfold maxLen; omega))
  rw [r1] at HR1
  rw [r2] at HR2
  simp only [] at HR1 HR2
  have HR0 := Lib.hid (And.intro r3 r4)
  have ha1 : ∀ W, (Op.stringOp .add (ByteArray.mk T.toArray) ⟨#[46]⟩).run Try.prog W = .ok (.string ⟨(T ++ [46]).toArray⟩) W := fun W => add_strs T [46] (by omega) (by simp) W
  have ha2 : ∀ W, (Op.stringOp .add (ByteArray.mk (T.map lowC).toArray) ⟨#[46]⟩).run Try.prog W = .ok (.string ⟨(T.map lowC ++ [46]).toArray⟩) W := fun W => add_strs (T.map lowC) [46] (by rw [List.length_map]; omega) (by simp) W
  have HIX := Lib.hid (fun W k c h => run_str_at W T k c h)
  have hi0 : ∀ W, (Instr.index 9 (.string ⟨T.toArray⟩) (.int .i64 0)).run Try.prog W = .ok (bv c0) W := fun W => run_str_at W T 0 c0 hc0
  have hsz := str_size T
  have htl : (ByteArray.mk T.toArray).toList = T := str_toList T
  have hne : T ≠ [] := by rintro rfl; cases hc0
  have he : ((ByteArray.mk T.toArray).toList == []) = false := by rw [htl]; simpa using hne
  have he3 : (ByteArray.mk T.toArray).toList.isEmpty = false := by rw [htl]; simpa using hne
  clear r1 r2 r3 r4 hc0 hne htl
  generalize hm : T.length = m at *
  have HM := Lib.hid hm
  clear hm
  unfold bv at hi0
  unfold str at *
  generalize c0.toNat = cn at *
  generalize ByteArray.mk T.toArray = S at *
  generalize ByteArray.mk (T ++ [46]).toArray = S1 at *
  generalize ByteArray.mk (T.map lowC ++ [46]).toArray = S2 at *
  generalize hSL : ByteArray.mk (T.map lowC).toArray = SL at *
  have HSL := Lib.hid hSL
  clear hSL
  have HLO := Lib.hid hlo
  have HHI := Lib.hid hhi
  clear hbs hb2 hlo hhi
  go_enter Try.func5, Try.ntmps5
  go_wp2_with (first
    | (go_at_call 30; refine HT.out.mono ?_; rintro e w1 ⟨rfl, hk⟩; have HK1 := Lib.hid hk; clear hk)
    | (go_at_call 26; refine (HR1.out _).mono ?_; rintro e w2 ⟨rfl, hk⟩; have HK2 := Lib.hid (HK1.out.trans hk); clear hk))
  clear HT HR1 ha1 HK1
  go_loopw [16, 65] (fun sm i wr => ∃ (k : Nat) (v : Value), k ≤ m ∧ v = sm ∧ i = .int .i64 (k : Int) ∧ Hid (wr.ownsRow w.heap.size 5 1 v ((T.take k).map lowC).length (((T.take k).map lowC).map bv)) ∧ Hid (Keeps [] w wr)) (fun _ i _ => m - (intOf i).toNat)
  case atStart => exact ⟨0, _, by omega, rfl, rfl, World.ownsRow_nil _ _ _ _, HK2.out⟩
  case round =>
    obtain ⟨k, v, hk, rfl, rfl, HO, HK⟩ := hrel
    by_cases hlt : k < m
    · obtain ⟨c, hc⟩ : ∃ c, T[k]? = some c := ⟨_, List.getElem?_eq_getElem (by have := HM.out; omega)⟩
      have hix := fun W => HIX.out W k c hc
      have HT2 := Lib.hid (show (T.take (k + 1)).map lowC = (T.take k).map lowC ++ [lowC c] by rw [List.take_add_one, hc]; simp)
      have HLN := Lib.hid (show ((T.take k).map lowC).length ≤ 65 by rw [List.length_map, List.length_take]; have := HM.out; omega)
      have hln := low_nat c
      have hcl := c.toNat_lt
      unfold bv at hix
      generalize (T.take k).map lowC = P at *
      generalize hlc : lowC c = d at *
      have HLC := Lib.hid hlc
      clear hc hlc
      generalize c.toNat = x at *
      by_cases g1 : 65 ≤ x
      · by_cases g2 : x ≤ 90
        · rw [if_pos ⟨g1, g2⟩] at hln
          have t1 : (65 : Int) ≤ (x : Int) := by omega
          have t2 : (x : Int) ≤ 90 := by omega
          have t3 : (x : Int) + 32 = (d.toNat : Int) := by omega
          have t4 : IntKind.u8.wrap (d.toNat : Int) = (d.toNat : Int) := IntWalk.u8_in _ (by have := d.toNat_lt; omega)
          have t5 : (d.toNat : Int) % 256 = (d.toNat : Int) := by have := d.toNat_lt; omega
          clear hln g1 g2 hcl
          go_wp2_with (at_builtin; refine wpList_append_bb rfl _ _ rfl w.heap.size v P rfl (World.ownsRow.keeps HO.out (Keeps.alloc [] _ _) (fun _ _ => List.not_mem_nil)) _ [d] wr.heap.size rfl (Reads.lit wr [d] _ 5 1 (0, 0) rfl rfl) (by have := HLN.out; simp; omega) (by have := HK.out.size; simp; omega) ?_; intro v5 w5 ho5 hk5 hn5; have HO5 := Lib.hid ho5; have HK5 := Lib.hid hk5; clear ho5 hk5 hn5)
          go_roundw
          case rel => exact ⟨k + 1, v5, by omega, rfl, by go_num, by rw [HT2.out]; exact HO5.out, (HK.out.trans (Keeps.alloc [] _ _)).then HK5.out (fun y hy => .inr (by simp at hy; exact (HO.out.lt y hy).1))⟩
          case measure => simp [intOf]; omega
        · rw [if_neg (fun h => g2 h.2)] at hln
          have t1 : (65 : Int) ≤ (x : Int) := by omega
          have t2 : ¬ (x : Int) ≤ 90 := by omega
          subst hln
          clear g1 g2 hcl
          go_wp2_with (at_builtin; refine wpList_append_bb rfl _ _ rfl w.heap.size v P rfl (World.ownsRow.keeps HO.out (Keeps.alloc [] _ _) (fun _ _ => List.not_mem_nil)) _ [d] wr.heap.size rfl (Reads.lit wr [d] _ 5 1 (0, 0) rfl rfl) (by have := HLN.out; simp; omega) (by have := HK.out.size; simp; omega) ?_; intro v5 w5 ho5 hk5 hn5; have HO5 := Lib.hid ho5; have HK5 := Lib.hid hk5; clear ho5 hk5 hn5)
          go_roundw
          case rel => exact ⟨k + 1, v5, by omega, rfl, by go_num, by rw [HT2.out]; exact HO5.out, (HK.out.trans (Keeps.alloc [] _ _)).then HK5.out (fun y hy => .inr (by simp at hy; exact (HO.out.lt y hy).1))⟩
          case measure => simp [intOf]; omega
      · rw [if_neg (fun h => g1 h.1)] at hln
        have t1 : ¬ (65 : Int) ≤ (x : Int) := by omega
        subst hln
        clear g1 hcl
        go_wp2_with (at_builtin; refine wpList_append_bb rfl _ _ rfl w.heap.size v P rfl (World.ownsRow.keeps HO.out (Keeps.alloc [] _ _) (fun _ _ => List.not_mem_nil)) _ [d] wr.heap.size rfl (Reads.lit wr [d] _ 5 1 (0, 0) rfl rfl) (by have := HLN.out; simp; omega) (by have := HK.out.size; simp; omega) ?_; intro v5 w5 ho5 hk5 hn5; have HO5 := Lib.hid ho5; have HK5 := Lib.hid hk5; clear ho5 hk5 hn5)
        go_roundw
        case rel => exact ⟨k + 1, v5, by omega, rfl, by go_num, by rw [HT2.out]; exact HO5.out, (HK.out.trans (Keeps.alloc [] _ _)).then HK5.out (fun y hy => .inr (by simp at hy; exact (HO.out.lt y hy).1))⟩
        case measure => simp [intOf]; omega
    · obtain rfl : k = m := by omega
      have hO := HO.out
      rw [List.take_of_length_le (by rw [HM.out]; exact Nat.le_refl _)] at hO
      obtain ⟨M, hrd⟩ : ∃ M, Reads wr v (T.map lowC) M := by
        obtain ⟨M, h, _⟩ := owns_reads2 hO
        exact ⟨M, h⟩
      have hcv := conv_reads hrd
      rw [HSL.out] at hcv
      clear hO hrd
      rcases ways with ⟨rfl, rfl, h3⟩ | ⟨h1, h2⟩ | ⟨h1, rfl, h3⟩
      · rw [HR0.out.1 h3] at HR3
        simp only [] at HR3
        clear h3 hc45
        go_wp2_with (first
          | (go_at_call_of 26 (Value.string S2); refine (HR2.out _).mono ?_; rintro e w4 ⟨rfl, hk⟩; have HK4 := Lib.hid hk; clear hk)
          | (go_at_call 26; refine (HR3.out _).mono ?_; rintro e w5 ⟨rfl, hk⟩; have HK5 := Lib.hid hk; clear hk)
          | (go_at_call 23; refine (awake13_any _).mono ?_; rintro e w9 ⟨rfl, hk⟩; have HK9 := Lib.hid hk; clear hk))
        go_ret
        exact ⟨rfl, ((HK.out.trans HK4.out).trans HK5.out).trans HK9.out⟩
      · rw [HR0.out.2 h2] at HR3
        simp only [] at HR3
        have z1 : ((hi : Int) == 0) = false := by simp; omega
        clear h1 h2 hc45
        go_wp2_with (first
          | (go_at_call_of 26 (Value.string S2); refine (HR2.out _).mono ?_; rintro e w4 ⟨rfl, hk⟩; have HK4 := Lib.hid hk; clear hk)
          | (go_at_call 26; refine (HR3.out _).mono ?_; rintro e w5 ⟨rfl, hk⟩; have HK5 := Lib.hid hk; clear hk)
          | (go_at_call 23; refine (awake13_any _).mono ?_; rintro e w9 ⟨rfl, hk⟩; have HK9 := Lib.hid hk; clear hk))
        go_ret
        exact ⟨rfl, ((HK.out.trans HK4.out).trans HK5.out).trans HK9.out⟩
      · rw [HR0.out.1 h3] at HR3
        simp only [] at HR3
        have z1 : ((hi : Int) == 0) = false := by simp; omega
        obtain rfl := hc45.2 rfl
        clear h1 h3 hc45
        go_wp2_with (first
          | (go_at_call_of 26 (Value.string S2); refine (HR2.out _).mono ?_; rintro e w4 ⟨rfl, hk⟩; have HK4 := Lib.hid hk; clear hk)
          | (go_at_call 26; refine (HR3.out _).mono ?_; rintro e w5 ⟨rfl, hk⟩; have HK5 := Lib.hid hk; clear hk)
          | (go_at_call 23; refine (awake13_any _).mono ?_; rintro e w9 ⟨rfl, hk⟩; have HK9 := Lib.hid hk; clear hk))
        go_ret
        exact ⟨rfl, ((HK.out.trans HK4.out).trans HK5.out).trans HK9.out⟩
end Go.Proofs.Ytfnjjanknfmibaa
