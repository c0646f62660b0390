/-
  Memories: what is told of places, and what is put there; Load, Byte, Bytes, Store, Fill, SetByte.
-/
import Derived.Test.YtfnjjanknfmibaaGreatMemA
namespace Go.Proofs.YtfnjjanknfmibaaGreat
open Go.RowKit Go.Deep
set_option linter.unusedVariables false

/-! ### what is to be answered -/
def tT (win ram : List UInt8) (A n : Nat) : Int := if inAt 4096 win A n ∨ inAt 1048576 ram A n then 0 else -9
def gL (win ram : List UInt8) (A n : Nat) : List UInt8 :=
  if inAt 4096 win A n then (win.drop (A - 4096)).take n else if inAt 1048576 ram A n then (ram.drop (A - 1048576)).take n else []
def pT (win ram : List UInt8) (A n : Nat) : Int := if inAt 1048576 ram A n then 0 else if inAt 4096 win A n then (if n = 0 then 0 else -20) else -9
def pL (ram : List UInt8) (A : Nat) (bs : List UInt8) : List UInt8 := if inAt 1048576 ram A bs.length then putAt ram (A - 1048576) bs else ram
/-- Four bytes' number, the lowest one first. -/
def wordN (b : List UInt8) : Nat := (b.getD 0 0).toNat + 256 * (b.getD 1 0).toNat + 65536 * (b.getD 2 0).toNat + 16777216 * (b.getD 3 0).toNat
/-- A number's four bytes. -/
def fourL (x : Nat) : List UInt8 := [UInt8.ofNat x, UInt8.ofNat (x / 256), UInt8.ofNat (x / 65536), UInt8.ofNat (x / 16777216)]
def loadT (win ram : List UInt8) (A : Nat) : Int := if A % 4 = 0 then tT win ram A 4 else -23
def loadX (win ram : List UInt8) (A : Nat) : Nat := if A % 4 = 0 then wordN (gL win ram A 4) else 0
def storeT (win ram : List UInt8) (A : Nat) : Int := if A % 4 = 0 then pT win ram A 4 else -23
def storeL (ram : List UInt8) (A x : Nat) : List UInt8 := if A % 4 = 0 then pL ram A (fourL x) else ram
def byteX (win ram : List UInt8) (A : Nat) : UInt8 := (gL win ram A 1).getD 0 0
def moveT (win ram : List UInt8) (A B n : Nat) : Int := if tT win ram A n = 0 then pT win ram B n else -9
def moveL (win ram : List UInt8) (A B n : Nat) : List UInt8 := if tT win ram A n = 0 then pL ram B (gL win ram A n) else ram

theorem gL_length {win ram : List UInt8} {A n : Nat} (h : tT win ram A n = 0) : (gL win ram A n).length = n := by
  unfold tT at h
  split at h
  · next hi =>
    unfold gL
    rcases hi with hi | hi
    · rw [if_pos hi]; unfold inAt at hi; simp; omega
    · split
      · next hj => unfold inAt at hj; simp; omega
      · unfold inAt at hi; simp; omega
  · cases h
theorem gL_none {win ram : List UInt8} {A n : Nat} (h : tT win ram A n ≠ 0) : gL win ram A n = [] := by
  unfold tT at h
  split at h
  · exact absurd rfl h
  · next hi =>
    unfold gL
    rw [if_neg (fun hh => hi (.inl hh)), if_neg (fun hh => hi (.inr hh))]
theorem tT_or (win ram : List UInt8) (A n : Nat) : tT win ram A n = 0 ∨ tT win ram A n = -9 := by unfold tT; split <;> simp

theorem putAt_step (l : List UInt8) (k j : Nat) (bs : List UInt8) (c : UInt8) (h : k + bs.length ≤ l.length) (hc : bs[j]? = some c) : (putAt l k (bs.take j)).set (k + j) c = putAt l k (bs.take (j + 1)) := by
  have hj := (List.getElem?_eq_some_iff.1 hc).1
  refine List.ext_getElem? fun i => ?_
  rw [List.getElem?_set]
  unfold putAt
  simp only [List.length_append, List.length_take, List.length_drop, List.getElem?_append, List.getElem?_take, List.getElem?_drop]
  rw [Nat.min_eq_left (by omega : k ≤ l.length), Nat.min_eq_left (by omega : j ≤ bs.length), Nat.min_eq_left (by omega : j + 1 ≤ bs.length)]
  by_cases h1 : k + j = i
  · subst h1
    rw [if_pos rfl, if_pos (by omega), if_neg (by omega), if_pos (by omega), if_pos (by omega), Nat.add_sub_cancel_left, hc]
  · rw [if_neg h1]
    by_cases h2 : i < k
    · rw [if_pos h2, if_pos h2, if_pos h2]
    · rw [if_neg h2, if_neg h2]
      by_cases h3 : i - k < j
      · rw [if_pos h3, if_pos h3, if_pos (by omega), if_pos (by omega)]
      · rw [if_neg h3, if_neg (by omega)]
        congr 1; omega

section
variable {w : World} {H g rb M : Nat} {wv : Value} {win ram : List UInt8}

theorem Reads.off {a : Option Addr} {cap : Nat} {l : List UInt8} {Mx : Nat} (h : Reads w (.slice a l.length cap) l Mx) (k n : Nat) (hk : k + n ≤ l.length) : Reads w (.slice (offA a k n) n n) ((l.drop k).take n) Mx := by
  have hlen : ((l.drop k).take n).length = n := by simp; omega
  rcases h with ⟨hv, rfl⟩ | ⟨ad, c, hv, hc, hb, hcell⟩
  · simp at hk
    obtain ⟨rfl, rfl⟩ := hk
    simp at hv
    obtain ⟨rfl, rfl⟩ := hv
    exact .inl ⟨by simp [offA], by simp⟩
  · simp at hv
    obtain ⟨rfl, rfl⟩ := hv
    by_cases hn : n = 0
    · subst hn
      exact .inr ⟨ad, 0, by simp [offA], by simp, fun hh => absurd (by simp) hh, fun i c hi => by simp at hi⟩
    · refine .inr ⟨ad.add k, n, by simp [offA, hn, hlen], by omega, fun _ => ?_, fun i c hi => ?_⟩
      · rw [Addr.add_block]; exact hb (by intro e; subst e; simp at hk; omega)
      · rw [List.getElem?_take] at hi
        split at hi
        · rw [List.getElem?_drop] at hi
          rw [Deep.add_add]; exact hcell _ c hi
        · cases hi

theorem there_any (h : MemAt w H g rb M wv win ram) (A n : Nat) (a1 : A < 4294967296) (n1 : n < 4294967296) :
    Calls Tryz.prog 19 #[.pointer (some ⟨g, 0, none⟩), .int .u32 A, .int .u32 n] w fun e w' => ∃ a m Mx, e = .returned (.tuple #[.slice a m m, .int .i32 (tT win ram A n)]) ∧ m = (gL win ram A n).length ∧ Reads w' (.slice a m m) (gL win ram A n) Mx ∧ (gL win ram A n ≠ [] → H ≤ Mx ∧ Mx < w'.heap.size) ∧ Keeps [] w w' := by
  have hwl := h.winL
  have hrl := h.ram4
  by_cases h1 : inAt 4096 win A n
  · obtain ⟨a, cap, hwv, hcap⟩ := h.winR.shape
    have hi := h1
    unfold inAt at hi
    refine (there_win h hwv A (A - 4096) n (by omega) (by omega)).mono ?_
    rintro e w' ⟨rfl, hk⟩
    have hg : gL win ram A n = (win.drop (A - 4096)).take n := by unfold gL; rw [if_pos h1]
    have hl : n = (gL win ram A n).length := by rw [hg]; simp; omega
    refine ⟨offA a (A - 4096) n, n, M, ?_, hl, ?_, ?_, hk⟩
    · unfold tT; rw [if_pos (.inl h1)]
    · rw [hg]; exact ((hwv ▸ h.winR).off _ _ (by omega)).ifKept hk (by simp)
    · intro hne
      have := h.winM (by intro e; subst e; rw [hg] at hne; simp at hne)
      have := hk.size
      omega
  by_cases h2 : inAt 1048576 ram A n
  · have hi := h2
    unfold inAt at hi
    refine (there_ram h A (A - 1048576) n (by omega) (by omega)).mono ?_
    rintro e w' ⟨rfl, hk⟩
    have hg : gL win ram A n = (ram.drop (A - 1048576)).take n := by unfold gL; rw [if_neg h1, if_pos h2]
    have hl : n = (gL win ram A n).length := by rw [hg]; simp; omega
    refine ⟨offA (some ⟨rb, 0, none⟩) (A - 1048576) n, n, rb, ?_, hl, ?_, ?_, hk⟩
    · unfold tT; rw [if_pos (.inr h2)]
    · rw [hg]; exact (h.ramR.off _ _ (by omega)).ifKept hk (by simp)
    · intro _
      have := h.row.lt
      have := h.rbH
      have := hk.size
      omega
  · unfold inAt at h1 h2
    refine (there_out h A n (by omega) (by omega) n1 (by omega) (by omega)).mono ?_
    rintro e w' ⟨rfl, hk⟩
    have hg : gL win ram A n = [] := by unfold gL; rw [if_neg h1, if_neg h2]
    refine ⟨none, 0, 0, ?_, by rw [hg]; rfl, by rw [hg]; exact Reads.nil _ _, by rw [hg]; simp, hk⟩
    unfold tT; rw [if_neg (by unfold inAt; omega)]

theorem writable_in (h : MemAt w H g rb M wv win ram) (A n : Nat) (hin : inAt 1048576 ram A n) (hn : 0 < n) :
    Calls Tryz.prog 154 #[.pointer (some ⟨g, 0, none⟩), .int .u32 A, .int .u32 n] w fun e w' => e = .returned (.tuple #[.slice (some ⟨rb, A - 1048576, none⟩) n n, .int .i32 0]) ∧ Keeps [] w w' := by
  have hi := hin
  unfold inAt at hi
  have := writable_ram h A (A - 1048576) n (by omega) (by omega)
  rwa [show offA (some ⟨rb, 0, none⟩) (A - 1048576) n = some ⟨rb, A - 1048576, none⟩ by unfold offA; rw [if_neg (by omega)]; simp [Addr.add_off]] at this

theorem writable_no (h : MemAt w H g rb M wv win ram) (A n : Nat) (a1 : A < 4294967296) (n1 : n < 4294967296) (hin : ¬ (inAt 1048576 ram A n ∧ 0 < n)) :
    Calls Tryz.prog 154 #[.pointer (some ⟨g, 0, none⟩), .int .u32 A, .int .u32 n] w fun e w' => ∃ a, e = .returned (.tuple #[.slice a 0 0, .int .i32 (pT win ram A n)]) ∧ Keeps [] w w' := by
  have hwl := h.winL
  by_cases h2 : inAt 1048576 ram A n
  · obtain rfl : n = 0 := by by_cases hn : n = 0; exact hn; exact absurd ⟨h2, by omega⟩ hin
    have hi := h2
    unfold inAt at hi
    refine (writable_ram h A (A - 1048576) 0 (by omega) (by omega)).mono ?_
    rintro e w' ⟨rfl, hk⟩
    exact ⟨_, by unfold pT; rw [if_pos h2], hk⟩
  by_cases h1 : inAt 4096 win A n
  · have hi := h1
    unfold inAt at hi
    by_cases hn : n = 0
    · subst hn
      obtain ⟨a, cap, hwv, hcap⟩ := h.winR.shape
      refine (writable_win0 h hwv A (A - 4096) (by omega) (by omega)).mono ?_
      rintro e w' ⟨rfl, hk⟩
      exact ⟨a, by unfold pT; rw [if_neg h2, if_pos h1]; rfl, hk⟩
    · refine (writable_win h A (A - 4096) n (by omega) (by omega) (by omega)).mono ?_
      rintro e w' ⟨rfl, hk⟩
      exact ⟨none, by unfold pT; rw [if_neg h2, if_pos h1, if_neg hn], hk⟩
  · have e1 := h1
    have e2 := h2
    unfold inAt at h1 h2
    refine (writable_out h A n (by omega) (by omega) n1 (by omega) (by omega)).mono ?_
    rintro e w' ⟨rfl, hk⟩
    exact ⟨none, by unfold pT; rw [if_neg e2, if_neg e1], hk⟩
end
end Go.Proofs.YtfnjjanknfmibaaGreat
