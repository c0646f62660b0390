/-
  Contracts of the document's own record (lightshipref04): Size, nothing, head.
-/
import Derived.Test.YtdcfcljgennipaaRecE
namespace Go.Proofs.Ytdcfcljgennipaa
open Go.RowKit

set_option maxRecDepth 100000 in
set_option maxHeartbeats 1000000 in
theorem R4Size_ok (w : World) (n : Nat) (hn : n ≤ 4080) :
    Calls Try.prog 20 #[.int .i64 n] w fun e w' => e = .returned (.int .i64 (sizeN n)) ∧ w = w' := by
  have h1 := fillN_ge n
  have h2 := fillN_lt n
  have h3 := fillN_mod n
  have hs : (sizeN n : Int) = (fillN n : Int) + 12 := by unfold sizeN; omega
  rw [hs]
  generalize fillN n = f at *
  clear hs
  go_enter Try.func20, Try.ntmps20
  go_wp2
  go_loop [0] (fun x => ∃ k : Nat, n ≤ k ∧ k ≤ f ∧ x = .int .i64 k) (fun x => f - (intOf x).toNat)
  case atStart => exact ⟨n, Nat.le_refl _, h1, rfl⟩
  case round =>
    obtain ⟨k, hk1, hk2, rfl⟩ := hrel
    obtain ⟨r, hr⟩ : ∃ r, r = k % 4 := ⟨_, rfl⟩
    have e1 : (k : Int) % 4 = (r : Int) := by omega
    have e2 : (k : Int).tmod 4 = (r : Int) := by rw [Int.tmod_eq_emod_of_nonneg (by omega)]; exact e1
    have hk4 : k ≤ 5000 := by omega
    by_cases hlt : k < f
    · have hne : (((r : Int) != 0) : Bool) = true := by simp; omega
      have HK1 := Lib.hid hk1
      clear hr hk1 h1 h2 h3 hk2
      go_wp2
      go_round
      case rel => exact ⟨k + 1, by have := HK1.out; omega, by omega, by go_num⟩
      case measure => simp [intOf]; omega
    · obtain rfl : k = f := by omega
      have he : ((0 : Int) != 0) = false := rfl
      obtain rfl : r = 0 := by omega
      clear hr h1 h2 h3 hk1 hk2 hlt
      go_wp2
      go_ret
      exact ⟨rfl, rfl⟩

set_option maxRecDepth 100000 in
theorem R4Size_out (w : World) (n : Int) (hn : n < 0 ∨ 4080 < n) :
    Calls Try.prog 20 #[.int .i64 n] w fun e w' => e = .returned (.int .i64 0) ∧ w = w' := by
  rcases hn with h | h
  · go_enter Try.func20, Try.ntmps20
    go_wp2
    go_ret
    exact ⟨rfl, rfl⟩
  · by_cases h0 : n < 0
    · omega
    · go_enter Try.func20, Try.ntmps20
      go_wp2
      go_ret
      exact ⟨rfl, rfl⟩

theorem blank_take_succ (b : List UInt8) (k : Nat) (c : UInt8) (hc : b[k]? = some c) (h : blank (b.take k)) (h2 : c = 255) : blank (b.take (k + 1)) := by
  intro x hx
  rw [List.take_add_one, hc] at hx
  simp at hx
  rcases hx with h' | h'
  · exact h x h'
  · rw [h', h2]

theorem writtenN_zero (b : List UInt8) : writtenN b = 0 ↔ blank b := by
  have := blank_drop b 0
  rw [List.drop_zero] at this
  rw [this]; omega

set_option maxRecDepth 100000 in
set_option maxHeartbeats 1000000 in
theorem R4nothing_any (w : World) (v : Value) (b : List UInt8) (M : Nat) (h : Reads w v b M) (hl : b.length ≤ 100000) :
    Calls Try.prog 46 #[v] w fun e w' => e = .returned (.bool (writtenN b == 0)) ∧ w = w' := by
  obtain ⟨r, hr⟩ : ∃ r, r = (writtenN b == 0) := ⟨_, rfl⟩
  have HR := Lib.hid hr
  rw [← hr]
  clear hr
  obtain ⟨a, cap, rfl, hcap⟩ := h.shape
  have HV := Lib.hid h
  obtain ⟨n, hn⟩ : ∃ n, n = b.length := ⟨_, rfl⟩
  have HN := Lib.hid hn
  rw [← hn] at HV hl hcap ⊢
  clear hn h
  go_enter Try.func46, Try.ntmps46
  go_wp2
  go_loop [3] (fun x => ∃ k : Nat, k ≤ n ∧ x = .int .i64 k ∧ Hid (blank (b.take k))) (fun x => n - (intOf x).toNat)
  case atStart => exact ⟨0, Nat.zero_le _, rfl, Lib.hid (by intro x hx; simp at hx)⟩
  case round =>
    obtain ⟨k, hk, rfl, HB⟩ := hrel
    by_cases hlt : k < n
    · have hkb : k < b.length := by rw [← HN.out]; exact hlt
      have hc : b[k]? = some (b[k]) := List.getElem?_eq_getElem hkb
      have hne : b ≠ [] := by intro e; rw [e] at hkb; simp at hkb
      obtain ⟨off, cap', hv, _, hcell⟩ := (show Reads w (.slice a b.length cap) b M by rw [← HN.out]; exact HV.out).at hne
      obtain ⟨rfl, rfl⟩ : a = some ⟨M, off, none⟩ ∧ cap = cap' := by simp at hv; exact hv
      have c0 := hcell k _ hc
      have HC := Lib.hid hc
      generalize b[k] = c at *
      clear hcell hv hne hc
      unfold bv at c0
      have hki : (k : Int) < (n : Int) := by omega
      by_cases h255 : c = 255
      · subst h255
        have c1 := c0.trans (show some (Value.int .u8 (((255 : UInt8).toNat : Nat) : Int)) = some (.int .u8 255) from rfl)
        clear c0
        go_wp2
        go_round
        case rel => exact ⟨k + 1, by omega, by go_num, Lib.hid (blank_take_succ b k _ HC.out HB.out rfl)⟩
        case measure => simp [intOf]; omega
      · have hcn : (((c.toNat : Int) != 255) : Bool) = true := by
          have : c.toNat ≠ 255 := fun e => h255 (UInt8.toNat_inj.1 e)
          simp; omega
        have hci : ¬ (c.toNat : Int) = 255 := by
          have : c.toNat ≠ 255 := fun e => h255 (UInt8.toNat_inj.1 e)
          omega
        go_wp2
        go_ret
        refine ⟨?_, rfl⟩
        rw [HR.out]
        have : writtenN b ≠ 0 := fun e => h255 ((writtenN_zero b).1 e c (List.mem_iff_getElem?.2 ⟨k, HC.out⟩))
        simpa using this
    · obtain rfl : k = n := by omega
      go_wp2
      go_ret
      refine ⟨?_, rfl⟩
      have hb := HB.out
      rw [HN.out, List.take_length] at hb
      rw [HR.out, (writtenN_zero b).2 hb]
      rfl
end Go.Proofs.Ytdcfcljgennipaa
