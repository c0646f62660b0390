/-
  Numbers as texts: the document's Step, Text.
-/
import Derived.Test.YtfnjjanknfmibaaNuRefA
import Derived.Test.YtfnjjanknfmibaaNuBackA
import Derived.Deep.CutRange
namespace Go.Proofs.Ytfnjjanknfmibaa
open Go.RowKit Go.Deep
set_option linter.unusedVariables false

theorem r13Step_none (w : World) (lo hi : Int) (b : Nat) (hb : ¬ (2 ≤ b ∧ b ≤ 36)) :
    Calls Try.prog 29 #[.int .u32 lo, .int .u32 hi, .int .u32 (b : Int)] w fun e w' => e = .returned (.tuple #[.int .u32 0, .int .u32 0, .int .u8 0, .bool false]) ∧ w = w' := by
  by_cases h1 : b < 2
  · have h1' : decide ((b : Int) < 2) = true := decide_eq_true (by omega)
    clear hb h1
    go_enter Try.func29, Try.ntmps29
    go_wp2
    exact bodyPost_ret (v := .tuple #[.int .u32 0, .int .u32 0, .int .u8 0, .bool false]) (by simp [results, Try.results29, go_sem]) rfl ⟨rfl, rfl⟩
  · have h1' : decide ((b : Int) < 2) = false := decide_eq_false (by omega)
    have h2' : decide ((36 : Int) < (b : Int)) = true := decide_eq_true (by omega)
    clear hb h1
    go_enter Try.func29, Try.ntmps29
    go_wp2
    exact bodyPost_ret (v := .tuple #[.int .u32 0, .int .u32 0, .int .u8 0, .bool false]) (by simp [results, Try.results29, go_sem]) rfl ⟨rfl, rfl⟩
theorem r13Text_none (w : World) (lo hi : Int) (b : Nat) (sg : Bool) (hb : ¬ (2 ≤ b ∧ b ≤ 36)) :
    Calls Try.prog 31 #[.int .u32 lo, .int .u32 hi, .int .u32 (b : Int), .bool sg] w fun e w' => e = .returned (.tuple #[str [], .bool false]) ∧ w = w' := by
  by_cases h1 : b < 2
  · have h1' : decide ((b : Int) < 2) = true := decide_eq_true (by omega)
    clear hb h1
    go_enter Try.func31, Try.ntmps31
    go_wp2
    exact bodyPost_ret (v := .tuple #[.string ⟨#[]⟩, .bool false]) (by simp [results, Try.results31, go_sem]) rfl ⟨rfl, rfl⟩
  · have h1' : decide ((b : Int) < 2) = false := decide_eq_false (by omega)
    have h2' : decide ((36 : Int) < (b : Int)) = true := decide_eq_true (by omega)
    clear hb h1
    go_enter Try.func31, Try.ntmps31
    go_wp2
    exact bodyPost_ret (v := .tuple #[.string ⟨#[]⟩, .bool false]) (by simp [results, Try.results31, go_sem]) rfl ⟨rfl, rfl⟩

set_option maxRecDepth 100000 in
set_option maxHeartbeats 1000000 in
theorem r13Step_ok (w : World) (lo hi b : Nat) (hb : 2 ≤ b ∧ b ≤ 36) (hlo : lo < 4294967296) (hhi : hi < 4294967296) (n : Nat) (hn : n = hi * 4294967296 + lo) (l1 h1 : Nat) (hl1 : l1 = n / b % 4294967296) (hh1 : h1 = n / b / 4294967296) (c : UInt8) (hc : c = letN (n % b)) :
    Calls Try.prog 29 #[.int .u32 (lo : Int), .int .u32 (hi : Int), .int .u32 (b : Int)] w fun e w' => e = .returned (.tuple #[.int .u32 (l1 : Int), .int .u32 (h1 : Int), bv c, .bool true]) ∧ w = w' := by
  have hn64 : n < 18446744073709551616 := by omega
  obtain ⟨R, hR⟩ : ∃ R, R = n % b := ⟨_, rfl⟩
  obtain ⟨Q, hQ⟩ : ∃ Q, Q = n / b := ⟨_, rfl⟩
  obtain ⟨NI, hNI⟩ : ∃ NI : Int, NI = (n : Int) := ⟨_, rfl⟩
  obtain ⟨QI, hQI⟩ : ∃ QI : Int, QI = (Q : Int) := ⟨_, rfl⟩
  have hRb : R < b := by rw [hR]; exact Nat.mod_lt _ (by omega)
  have hQn : Q ≤ n := by rw [hQ]; exact Nat.div_le_self _ _
  rw [← hQ] at hl1 hh1
  rw [← hR] at hc
  have HD := Lib.hid (show Calls Try.prog 56 #[.int .u32 (lo : Int), .int .u32 (hi : Int)] w fun e w' => e = .returned (.int .u64 NI) ∧ w = w' by
    have k := r7Double_any w (lo : Int) (hi : Int) (by omega) (by omega) (by omega) (by omega)
    rw [show (lo : Int) + (hi : Int) * 4294967296 = NI by omega] at k
    exact k)
  have HL := Lib.hid (show Calls Try.prog 55 #[.int .u64 NI, .int .u64 (b : Int)] w fun e w' => e = .returned (.tuple #[.int .u64 (R : Int), .int .u64 QI]) ∧ w = w' by
    have k := r7Long_nat w n b hn64 (by omega) (by omega)
    rw [← Int.natCast_emod, ← Int.natCast_ediv, ← hR, ← hQ, ← hNI, ← hQI] at k
    exact k)
  have HC := Lib.hid (show Calls Try.prog 53 #[.int .u64 QI] w fun e w' => e = .returned (.tuple #[.int .u32 (l1 : Int), .int .u32 (h1 : Int)]) ∧ w = w' by
    have k := r7Cells_any w QI (by omega) (by omega)
    rw [show QI % 4294967296 = (l1 : Int) by omega, show QI / 4294967296 = (h1 : Int) by omega] at k
    exact k)
  have HT := Lib.hid (r13letter_any w R (by omega))
  rw [← hc] at HT
  have b1 : decide ((b : Int) < 2) = false := decide_eq_false (by omega)
  have b2 : decide ((36 : Int) < (b : Int)) = false := decide_eq_false (by omega)
  have b3 : (0 : Int) < (b : Int) := by omega
  have b4 : (b : Int) ≤ 36 := by omega
  clear hb hlo hhi hn hl1 hh1 hc hn64 hR hQ hNI hQI hRb hQn
  unfold bv at *
  generalize c.toNat = cn at *
  go_enter Try.func29, Try.ntmps29
  go_wp2_with (first
    | (go_at_call 56; refine HD.out.mono ?_; rintro e w' ⟨rfl, rfl⟩)
    | (go_at_call 55; refine HL.out.mono ?_; rintro e w' ⟨rfl, rfl⟩)
    | (go_at_call 53; refine HC.out.mono ?_; rintro e w' ⟨rfl, rfl⟩)
    | (go_at_call 57; refine HT.out.mono ?_; rintro e w' ⟨rfl, rfl⟩))
  exact bodyPost_ret (v := .tuple #[.int .u32 (l1 : Int), .int .u32 (h1 : Int), .int .u8 (cn : Int), .bool true]) (by simp [results, Try.results29, go_sem]) rfl ⟨rfl, rfl⟩

/-- What is left of the digits, once some are told. -/
def LeftT (b : Nat) (rest : List UInt8) (n : Nat) : Prop := n < 18446744073709551616 ∧ ((n = 0 ∧ rest = []) ∨ (n ≠ 0 ∧ ∃ k, rest = digsF b k n ∧ 1 ≤ k ∧ n < 2 ^ k))
theorem digs_step {b k n : Nat} (hb : 2 ≤ b ∧ b ≤ 36) (hk : 1 ≤ k) (hn : n < 2 ^ k) (h64 : n < 18446744073709551616) : ∃ r, digsF b k n = letN (n % b) :: r ∧ LeftT b r (n / b) := by
  cases k with
  | zero => omega
  | succ k =>
    refine ⟨if n / b = 0 then [] else digsF b k (n / b), rfl, Nat.lt_of_le_of_lt (Nat.div_le_self _ _) h64, ?_⟩
    have hlt : n / b < 2 ^ k := Nat.div_lt_of_lt_mul (by
      have : 2 * 2 ^ k ≤ b * 2 ^ k := Nat.mul_le_mul_right _ hb.1
      have e : 2 ^ (k + 1) = 2 * 2 ^ k := by rw [Nat.pow_succ]; omega
      omega)
    by_cases hz : n / b = 0
    · rw [if_pos hz]
      exact .inl ⟨hz, rfl⟩
    · rw [if_neg hz]
      refine .inr ⟨hz, k, rfl, ?_, hlt⟩
      cases k with
      | zero => exact absurd (Nat.lt_one_iff.1 hlt) hz
      | succ k => omega
/-- As the document goes: at first, or as long as something is left. -/
def GoesT (b N : Nat) (P : List UInt8) (n : Nat) (first : Bool) : Prop := (first = true ∧ P = [] ∧ n = N ∧ N < 18446744073709551616) ∨ (first = false ∧ ∃ rest, P ++ rest = digs b N ∧ LeftT b rest n)
theorem GoesT.next {b N : Nat} {P : List UInt8} {n : Nat} {f : Bool} (hb : 2 ≤ b ∧ b ≤ 36) (h : GoesT b N P n f) (hg : f = true ∨ 0 < n) : GoesT b N (P ++ [letN (n % b)]) (n / b) false := by
  rcases h with ⟨rfl, rfl, rfl, h64⟩ | ⟨rfl, rest, he, h64, hl⟩
  · obtain ⟨r, h1, h2⟩ := digs_step hb (show 1 ≤ 64 by decide) (show n < 2 ^ 64 by simpa using h64) h64
    exact .inr ⟨rfl, r, by rw [digs, h1]; rfl, h2⟩
  · rcases hl with ⟨h0, _⟩ | ⟨_, k, rfl, hk, hn⟩
    · rcases hg with hg | hg
      · cases hg
      · omega
    · obtain ⟨r, h1, h2⟩ := digs_step hb hk hn h64
      exact .inr ⟨rfl, r, by rw [← he, h1]; simp, h2⟩
theorem GoesT.done {b N : Nat} {P : List UInt8} {n : Nat} (h : GoesT b N P n false) (h0 : n = 0) : P = digs b N := by
  rcases h with ⟨h, _⟩ | ⟨_, rest, he, _, hl⟩
  · cases h
  · rcases hl with ⟨_, rfl⟩ | ⟨hn, _⟩
    · rwa [List.append_nil] at he
    · exact absurd h0 hn
theorem GoesT.lt {b N : Nat} {P : List UInt8} {n : Nat} {f : Bool} (h : GoesT b N P n f) : n < 18446744073709551616 ∧ P.length ≤ 64 := by
  rcases h with ⟨_, rfl, rfl, h⟩ | ⟨_, rest, he, h, _⟩
  · exact ⟨h, by simp⟩
  · have := digsF_len b 64 N
    have e := congrArg List.length he
    unfold digs at e
    rw [List.length_append] at e
    exact ⟨h, by omega⟩

def boolN : Value → Nat | .bool true => 1 | _ => 0

set_option maxRecDepth 100000 in
set_option maxHeartbeats 1000000 in
theorem r13Text_ok (w : World) (lo hi b N : Nat) (hb : 2 ≤ b ∧ b ≤ 36) (hN : N < 18446744073709551616) (hlo : lo = N % 4294967296) (hhi : hi = N / 4294967296) (sg : Bool) (mi : Bool) (hm : mi = (sg && decide (2147483648 ≤ hi))) (Z : Nat) (hZ : Z = if mi then negN N else N) :
    Calls Try.prog 31 #[.int .u32 (lo : Int), .int .u32 (hi : Int), .int .u32 (b : Int), .bool sg] w fun e w' => e = .returned (.tuple #[str (textN b Z mi), .bool true]) ∧ Keeps [] w w' := by
  obtain ⟨NI, hNI⟩ : ∃ NI : Int, NI = (N : Int) := ⟨_, rfl⟩
  have HD := Lib.hid (show Calls Try.prog 56 #[.int .u32 (lo : Int), .int .u32 (hi : Int)] w fun e w' => e = .returned (.int .u64 NI) ∧ w = w' by
    have k := r7Double_any w (lo : Int) (hi : Int) (by omega) (by omega) (by omega) (by omega)
    rw [show (lo : Int) + (hi : Int) * 4294967296 = NI by omega] at k
    exact k)
  have b1 : decide ((b : Int) < 2) = false := decide_eq_false (by omega)
  have b2 : decide ((36 : Int) < (b : Int)) = false := decide_eq_false (by omega)
  have b3 : (0 : Int) < (b : Int) := by omega
  have b4 : (b : Int) ≤ 36 := by omega
  have b5 : ((b : Int) == 0) = false := by simp; omega
  have HBB := Lib.hid hb
  obtain ⟨FR, hFR⟩ : ∃ FR : List UInt8, FR = if mi then [45] else [] := ⟨_, rfl⟩
  have HOUT := Lib.hid (show textN b Z mi = FR ++ (digs b Z).reverse by rw [hFR]; rfl)
  have hFL : FR.length ≤ 1 := by rw [hFR]; cases mi <;> simp
  have HFL := Lib.hid hFL
  obtain ⟨ZI, hZI⟩ : ∃ ZI : Int, ZI = (Z : Int) := ⟨_, rfl⟩
  have hZ64 : Z < 18446744073709551616 ∧ (mi = true → (-NI) % 18446744073709551616 = ZI) ∧ (mi = false → NI = ZI) := by
    rw [hZI, hNI]
    cases mi
    · have e : Z = N := hZ
      rw [e]
      exact ⟨hN, (fun h => by cases h), (fun _ => rfl)⟩
    · have e : Z = negN N := hZ
      have h := neg_or N hN
      rw [← e] at h
      exact ⟨by omega, (fun _ => by omega), (fun h => by cases h)⟩
  rw [HOUT.out]
  have HZ64 := Lib.hid hZ64.1
  have HZI := Lib.hid hZI
  have ways : (sg = false ∧ mi = false) ∨ (sg = true ∧ mi = false ∧ hi < 2147483648) ∨ (sg = true ∧ mi = true ∧ 2147483648 ≤ hi) := by
    cases sg
    · exact .inl ⟨rfl, hm⟩
    · by_cases h : 2147483648 ≤ hi
      · rw [decide_eq_true h] at hm; exact .inr (.inr ⟨rfl, hm, h⟩)
      · rw [decide_eq_false h] at hm; exact .inr (.inl ⟨rfl, hm, by omega⟩)
  have HZ2 := Lib.hid hZ64.2
  have HFR := Lib.hid hFR
  have hN0 : 0 ≤ NI ∧ NI < 18446744073709551616 := by omega
  have hZ0 : 0 ≤ ZI ∧ ZI < 18446744073709551616 := by have := hZ64.1; omega
  obtain ⟨hN0, hN1⟩ := hN0
  clear hZ hZI hZ64 hFR hFL hlo hhi hN hb hNI hm
  go_enter Try.func31, Try.ntmps31
  go_upto_region 4 with (go_at_call 56; refine HD.out.mono ?_; rintro e w' ⟨rfl, rfl⟩)
  go_cut [10, 11, 27] from 23 to 29 (fun v10 v11 v27 wc => v10 = .int .u64 NI ∧ v11 = .string ⟨#[]⟩ ∧ v27 = .bool mi ∧ wc = w)
  case first =>
    rcases ways with ⟨rfl, rfl⟩ | ⟨rfl, rfl, h⟩ | ⟨rfl, rfl, h⟩
    · go_wp2_with fail
      go_meet
      exact ⟨rfl, rfl, rfl, rfl⟩
    · have q : decide ((2147483648 : Int) ≤ (hi : Int)) = false := decide_eq_false (by omega)
      clear h
      go_wp2_with fail
      go_meet
      exact ⟨rfl, rfl, rfl, rfl⟩
    · have q : decide ((2147483648 : Int) ≤ (hi : Int)) = true := decide_eq_true (by omega)
      clear h
      go_wp2_with fail
      go_meet
      exact ⟨rfl, rfl, rfl, rfl⟩
  case rest =>
    obtain ⟨rfl, rfl, rfl, rfl⟩ := hcut
    go_upto_if 27 with fail
    go_cut [10, 11] from 28 to 29 (fun v10 v11 wx => v10 = .int .u64 ZI ∧ v11 = .string ⟨FR.toArray⟩ ∧ wc = wx)
    case first =>
      cases mi
      · have e := HZ2.out.2 rfl
        subst e
        have e2 : FR = [] := HFR.out
        subst e2
        go_wp2_with fail
        go_meet
        exact ⟨rfl, rfl, rfl⟩
      · have e := HZ2.out.1 rfl
        have e1 : IntKind.u64.wrap (-NI) = ZI := by rw [IntKind.wrap_u64]; exact e
        have e2 : FR = [45] := HFR.out
        subst e2
        go_wp2_with fail
        go_meet
        exact ⟨rfl, rfl, rfl⟩
    case rest =>
      obtain ⟨rfl, rfl, rfl⟩ := hcut
      have HG0 := Lib.hid (show GoesT b Z [] Z true from .inl ⟨rfl, rfl, rfl, HZ64.out⟩)
      go_wp2
      go_loopw [10, 12, 13] (fun nv sv fv wr => ∃ (P : List UInt8) (n : Nat) (NV : Int) (f : Bool) (ST : ByteArray), nv = .int .u64 NV ∧ sv = .string ST ∧ fv = .bool f ∧ Hid (NV = (n : Int) ∧ ST = ByteArray.mk P.reverse.toArray ∧ GoesT b Z P n f) ∧ Hid (Keeps [] wc wr)) (fun nv _ fv _ => (intOf nv).toNat + boolN fv)
      case atStart => exact ⟨[], Z, ZI, true, _, rfl, rfl, rfl, ⟨HZI.out, rfl, HG0.out⟩, Keeps.refl _ _⟩
      case round =>
        obtain ⟨P, n, NV, f, ST, rfl, rfl, rfl, HG, HK⟩ := hrel
        by_cases hgo : f = true ∨ 0 < n
        · have HNX := Lib.hid (HG.out.2.2.next HBB.out hgo)
          have hlt := HG.out.2.2.lt
          have hNV : NV = (n : Int) := HG.out.1
          have hmb := Nat.mod_lt n (show 0 < b by have := HBB.out; omega)
          have HT := Lib.hid (fun W => r13letter_any W (n % b) (by have := HBB.out; omega))
          obtain ⟨RI, hRI⟩ : ∃ RI : Int, RI = ((n % b : Nat) : Int) := ⟨_, rfl⟩
          obtain ⟨QI, hQI⟩ : ∃ QI : Int, QI = ((n / b : Nat) : Int) := ⟨_, rfl⟩
          have eR : NV % (b : Int) = RI := by rw [hRI, hNV, Int.natCast_emod]
          have eQ : NV / (b : Int) = QI := by rw [hQI, hNV, Int.natCast_ediv]
          have n0 : 0 ≤ NV := by omega
          have eR2 : NV.tmod (b : Int) = RI := by rw [Int.tmod_eq_emod_of_nonneg n0, eR]
          have eQ2 : NV.tdiv (b : Int) = QI := by rw [Int.tdiv_eq_ediv_of_nonneg n0, eQ]
          have n1 : NV < 18446744073709551616 := by omega
          have hqn := Nat.div_le_self n b
          have r0 : 0 ≤ RI := by rw [hRI]; exact Int.natCast_nonneg _
          have r1 : RI < 36 := by rw [hRI]; have := HBB.out; generalize n % b = z at hmb ⊢; omega
          have q0 : 0 ≤ QI := by rw [hQI]; exact Int.natCast_nonneg _
          have q1 : QI < 18446744073709551616 := by rw [hQI]; generalize n / b = z at hqn ⊢; omega
          rw [← hRI] at HT
          obtain ⟨c, hc⟩ : ∃ c, c = letN (n % b) := ⟨_, rfl⟩
          rw [← hc] at HT HNX
          have hcv : ∀ W : World, (convert 49 9 (.slice (some ⟨W.heap.size, 0, none⟩) 1 1)).run Try.prog (W.alloc (.cells #[.int .u8 (c.toNat : Int)] 5)) = .ok (.string ⟨[c].toArray⟩) (W.alloc (.cells #[.int .u8 (c.toNat : Int)] 5)) := fun W => conv_reads (Reads.lit W [c] _ 5 1 (0, 0) rfl rfl)
          have hadd : ∀ W, (Op.stringOp .add (ByteArray.mk [c].toArray) ST).run Try.prog W = .ok (.string ⟨(P ++ [c]).reverse.toArray⟩) W := fun W => by
            rw [HG.out.2.1, show (P ++ [c]).reverse = [c] ++ P.reverse by simp]
            exact add_strs _ _ (by simp) (by rw [List.length_reverse]; omega) W
          have HQI := Lib.hid hQI
          have HME := Lib.hid (show (QI.toNat < NV.toNat ∨ (QI.toNat = NV.toNat ∧ f = true)) by
            rcases hgo with hf | hn
            · by_cases h0 : n = 0
              · right
                subst h0
                refine ⟨?_, hf⟩
                rw [hQI, hNV]
                simp
              · left
                have := Nat.div_lt_self (show 0 < n by omega) (show 1 < b by have := HBB.out; omega)
                rw [hQI, hNV]
                generalize n / b = z at this ⊢
                omega
            · left
              have := Nat.div_lt_self hn (show 1 < b by have := HBB.out; omega)
              rw [hQI, hNV]
              generalize n / b = z at this ⊢
              omega)
          have hgo2 : f = true ∨ (f = false ∧ decide ((0 : Int) < NV) = true) := by
            cases f
            · right
              refine ⟨rfl, decide_eq_true ?_⟩
              rcases hgo with h | h
              · cases h
              · omega
            · exact .inl rfl
          unfold bv at HT
          generalize ByteArray.mk [c].toArray = SC at *
          generalize hS3 : ByteArray.mk (P ++ [c]).reverse.toArray = S3 at *
          have HS3 := Lib.hid hS3
          generalize c.toNat = cn at *
          clear hgo hlt hNV hmb hRI hQI hc hS3 hqn
          rcases hgo2 with rfl | ⟨rfl, hpos⟩
          · go_wp2_with (go_at_call 57; refine (HT.out _).mono ?_; rintro e w' ⟨rfl, rfl⟩)
            go_roundw
            case rel => exact ⟨P ++ [c], n / b, QI, false, S3, rfl, rfl, rfl, ⟨HQI.out, HS3.out.symm, HNX.out⟩, HK.out.trans (Keeps.alloc [] _ _)⟩
            case measure => have := HME.out; simp [intOf, boolN] at this ⊢; omega
          · go_wp2_with (go_at_call 57; refine (HT.out _).mono ?_; rintro e w' ⟨rfl, rfl⟩)
            go_roundw
            case rel => exact ⟨P ++ [c], n / b, QI, false, S3, rfl, rfl, rfl, ⟨HQI.out, HS3.out.symm, HNX.out⟩, HK.out.trans (Keeps.alloc [] _ _)⟩
            case measure => have := HME.out; simp [intOf, boolN] at this ⊢; omega
        · have hf : f = false := by cases f; rfl; exact absurd (.inl rfl) hgo
          subst hf
          have hn0 : n = 0 := by
            rcases Nat.eq_zero_or_pos n with h | h
            · exact h
            · exact absurd (.inr h) hgo
          have HDN := Lib.hid (HG.out.2.2.done hn0)
          obtain rfl : NV = 0 := by rw [HG.out.1, hn0]; rfl
          have hadd : ∀ W, (Op.stringOp .add (ByteArray.mk FR.toArray) ST).run Try.prog W = .ok (.string ⟨(FR ++ (digs b Z).reverse).toArray⟩) W := fun W => by
            rw [HG.out.2.1, HDN.out]
            exact add_strs _ _ (by have := HFL.out; omega) (by rw [List.length_reverse]; have := digsF_len b 64 Z; unfold digs; omega) W
          generalize ByteArray.mk FR.toArray = SF at *
          clear hgo hn0
          go_wp2
          exact bodyPost_ret (v := .tuple #[.string ⟨(FR ++ (digs b Z).reverse).toArray⟩, .bool true]) (by simp [results, Try.results31, go_sem]) rfl ⟨rfl, HK.out⟩
end Go.Proofs.Ytfnjjanknfmibaa
