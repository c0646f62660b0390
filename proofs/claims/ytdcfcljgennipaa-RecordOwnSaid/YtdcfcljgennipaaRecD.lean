/-
  Contracts of record: written, first, At; of the library: Equal, HasPrefix.
-/
import Derived.Test.YtdcfcljgennipaaRecC
namespace Go.Proofs.Ytdcfcljgennipaa
open Go.RowKit

theorem written_next (b : List UInt8) (k : Nat) (hk : 0 < k) (hb : blank (b.drop k)) (c : UInt8) (hc : b[k - 1]? = some c) : (c = 255 → blank (b.drop (k - 1))) ∧ (c ≠ 255 → writtenN b = k) := by
  have hlt : k - 1 < b.length := (List.getElem?_eq_some_iff.1 hc).1
  have hd : b.drop (k - 1) = c :: b.drop k := by
    rw [List.drop_eq_getElem_cons hlt, (List.getElem?_eq_some_iff.1 hc).2, show k - 1 + 1 = k by omega]
  constructor
  · rintro rfl x hx
    rw [hd] at hx
    rcases List.mem_cons.1 hx with h | h
    · exact h
    · exact hb x h
  · intro hne
    have h1 := (blank_drop b k).1 hb
    by_cases h2 : writtenN b ≤ k - 1
    · exact absurd ((blank_drop b (k - 1)).2 h2 c (by rw [hd]; simp)) hne
    · omega

set_option maxRecDepth 100000 in
set_option maxHeartbeats 1000000 in
theorem written_any (w : World) (v : Value) (b : List UInt8) (M : Nat) (h : Reads w v b M) (hl : b.length ≤ 100000) :
    Calls Try.prog 47 #[v] w fun e w' => e = .returned (.int .i64 (writtenN b)) ∧ w = w' := by
  obtain ⟨a, cap, rfl, hcap⟩ := h.shape
  have HR := Lib.hid h
  obtain ⟨n, hn⟩ : ∃ n, n = b.length := ⟨_, rfl⟩
  rw [← hn] at hl hcap ⊢
  have HN := Lib.hid hn
  clear h hn
  go_enter Try.func47, Try.ntmps47
  go_wp2
  go_loop [3] (fun s => ∃ k : Nat, k ≤ n ∧ s = .int .i64 k ∧ Hid (blank (b.drop k))) (fun s => (intOf s).toNat)
  case atStart => exact ⟨n, Nat.le_refl _, rfl, Lib.hid (by rw [List.drop_of_length_le (by rw [HN.out]; exact Nat.le_refl _)]; intro c hc; cases hc)⟩
  case round =>
    obtain ⟨k, hk, rfl, hb⟩ := hrel
    by_cases h0 : 0 < k
    · have hkb : k - 1 < b.length := by have := HN.out; omega
      obtain ⟨c, hc⟩ : ∃ c, b[k - 1]? = some c := ⟨_, List.getElem?_eq_getElem hkb⟩
      obtain ⟨off, cap', hv, _, hcell⟩ := HR.out.at (by intro e; subst e; simp at hkb)
      obtain ⟨hv1, rfl⟩ : a = some ⟨M, off, none⟩ ∧ cap = cap' := by simpa [HN.out] using hv
      subst hv1
      have hce := hcell _ c hc
      have HNX := Lib.hid (written_next b k h0 hb.out c hc)
      have e1 : ((k : Int) - 1).toNat = k - 1 := by omega
      have e2 : (0 : Int) ≤ (k : Int) - 1 := by omega
      have e3 : (k : Int) - 1 < (n : Int) := by omega
      have e4 : (0 : Int) < (k : Int) := by omega
      have e5 : off + (k - 1) = off + k - 1 := by omega
      unfold bv at hce
      clear hv hkb hc hcell
      by_cases hc255 : c = 255
      · have hcc : (((c.toNat : Int) == 255) : Bool) = true := by rw [hc255]; rfl
        clear e5
        go_wp2
        go_round
        case rel => exact ⟨k - 1, by omega, by congr 1; omega, Lib.hid (HNX.out.1 hc255)⟩
        case measure => simp [intOf]; omega
      · have hcc : (((c.toNat : Int) == 255) : Bool) = false := by
          simp only [beq_eq_false_iff_ne, ne_eq]
          intro e; apply hc255; apply UInt8.toNat_inj.1; show c.toNat = 255; omega
        clear e5
        go_wp2
        go_ret
        exact ⟨ret_int (by rw [HNX.out.2 hc255]), rfl⟩
    · obtain rfl : k = 0 := by omega
      have hw0 := (blank_drop b 0).1 hb.out
      go_wp2
      go_ret
      exact ⟨ret_int (by omega), rfl⟩

set_option maxHeartbeats 400000 in
theorem Equal_any (w : World) (va vb : Value) (a b : List UInt8) (Ma Mb : Nat) (ha : Reads w va a Ma) (hb : Reads w vb b Mb) :
    Calls Try.prog 94 #[va, vb] w fun e w' => e = .returned (.bool (a == b)) ∧ w = w' := by
  have h1 := conv_reads ha
  have h2 := conv_reads hb
  clear ha hb
  go_enter Try.func94, Try.ntmps94
  go_wp2
  go_ret
  exact ⟨rfl, rfl⟩

set_option maxHeartbeats 400000 in
theorem HasPrefix_ge (w : World) (va vb : Value) (a b : List UInt8) (Ma Mb : Nat) (ha : Reads w va a Ma) (hb : Reads w vb b Mb) (hab : b.length ≤ a.length) :
    Calls Try.prog 79 #[va, vb] w fun e w' => e = .returned (.bool (a.take b.length == b)) ∧ w = w' := by
  obtain ⟨aa, ca, rfl, hca⟩ := ha.shape
  obtain ⟨ab, cb, rfl, hcb⟩ := hb.shape
  obtain ⟨p, c, hcut, hr⟩ := ha.head b.length hab
  have hlen : (a.take b.length).length = b.length := by simp; omega
  rw [hlen] at hcut hr
  have HE := Lib.hid (Equal_any w _ _ _ _ _ _ hr hb)
  clear ha hb hr hlen
  have hge : decide ((b.length : Int) ≤ (a.length : Int)) = true := by simp; omega
  have hge2 : decide (b.length ≤ a.length) = true := by simp; omega
  generalize b.length = nb at *
  generalize a.length = na at *
  go_enter Try.func79, Try.ntmps79
  go_wp2_with (go_at_call 94; refine HE.out.mono ?_; rintro e w' ⟨rfl, rfl⟩)
  go_ret
  exact ⟨rfl, rfl⟩
end Go.Proofs.Ytdcfcljgennipaa
