/-
  Contracts of record: whole, Write.
-/
import Derived.Test.YtlnmbfddhdjioaaGreatRecScan
import Derived.Test.YtlnmbfddhdjioaaGreatFlashEnd
namespace Go.Proofs.YtlnmbfddhdjioaaGreat
open Go.RowKit

def FS.readErr (s : FS) (a n : Int) : Int := if s.down then 12 else if s.has a n then 0 else 10

theorem tmod4 (a : Int) : a.tmod 4 = 0 ↔ a % 4 = 0 := by
  by_cases h : 0 ≤ a
  · rw [Int.tmod_eq_emod_of_nonneg h]
  · obtain ⟨b, rfl⟩ : ∃ b, a = -b := ⟨-a, by omega⟩
    rw [Int.neg_tmod, Int.tmod_eq_emod_of_nonneg (by omega)]
    omega

set_option maxHeartbeats 400000 in
theorem recWhole_skip (w : World) (p : Option Addr) (a n : Int) (ha : a % 4 ≠ 0) :
    Calls Tryz.prog 76 #[.pointer p, .int .i64 a, .int .i64 n] w fun e w' => e = .returned (.int .i64 0) ∧ w = w' := by
  have h1 : ((a.tmod 4 != 0) : Bool) = true := by simpa [tmod4] using ha
  have h2 : ((a % 4 != 0) : Bool) = true := by simpa using ha
  by_cases h0 : 0 ≤ a
  all_goals
    generalize hr : a.tmod 4 = r at *
    generalize hq : a % 4 = q at *
    clear ha
    go_enter Tryz.func76, Tryz.ntmps76
    go_wp2
    go_ret
    exact ⟨rfl, rfl⟩

set_option maxRecDepth 100000 in
set_option maxHeartbeats 1000000 in
theorem recWhole_read {F B W M : Nat} {s : FS} (w : World) (hF : FlashAt w F B W M s) (a n : Int) (ha : a % 4 = 0) (hn : n ≤ 9223372036854775807) :
    Calls Tryz.prog 76 #[.pointer (some ⟨F, 0, none⟩), .int .i64 a, .int .i64 n] w fun e w' => e = .returned (.int .i64 (s.readErr a n)) ∧ Keeps [] w w' := by
  have h1 : ((a.tmod 4 != 0) : Bool) = false := by simpa [tmod4] using ha
  have h2 : ((a % 4 != 0) : Bool) = false := by simpa using ha
  have hR : Calls Tryz.prog 36 #[.pointer (some ⟨F, 0, none⟩), .int .i64 a, .int .i64 n] w fun e w' => ∃ v, e = .returned (.tuple #[v, .int .i64 (s.readErr a n)]) ∧ Keeps [] w w' := by
    unfold FS.readErr
    cases hd : s.down
    · by_cases hh : s.has a n
      · rw [if_neg (by simp), if_pos hh]
        exact (Read_ok w hF a n hd hh).mono fun _ _ ⟨b, c, he, _, _, hk⟩ => ⟨_, he, hk⟩
      · rw [if_neg (by simp), if_neg hh]
        exact (Read_out w hF a n hn hd hh).mono fun _ _ ⟨he, hw⟩ => ⟨_, he, hw ▸ Keeps.refl _ _⟩
    · rw [if_pos rfl]
      exact (Read_down w hF a n hd).mono fun _ _ ⟨he, hw⟩ => ⟨_, he, hw ▸ Keeps.refl _ _⟩
  have HR := Lib.hid hR
  clear hR hF hn
  generalize s.readErr a n = x at *
  by_cases h0 : 0 ≤ a
  all_goals
    generalize hr : a.tmod 4 = r at *
    generalize hq : a % 4 = q at *
    clear ha
    go_enter Tryz.func76, Tryz.ntmps76
    go_wp2_with (go_at_call 36; refine HR.out.mono ?_; rintro e w1 ⟨v, rfl, k1⟩; have K1 := Lib.hid k1; clear k1)
    go_ret
    exact ⟨rfl, K1.out⟩

set_option maxHeartbeats 1000000 in
theorem recWhole_not (w : World) (p : Option Addr) (h : NotMade w p) (n : Int) :
    Calls Tryz.prog 76 #[.pointer p, .int .i64 0, .int .i64 n] w fun e w' => e = .returned (.int .i64 1) ∧ w = w' := by
  go_enter Tryz.func76, Tryz.ntmps76
  go_wp2_with (go_at_call 36; refine (Read_not _ _ h _ _).mono ?_; rintro e w1 ⟨rfl, rfl⟩)
  go_ret
  exact ⟨rfl, rfl⟩

/-- Texts programmed one behind the other, up to the first error. -/
def stepP (s : FS) (a : Int) : List (List UInt8) → FS × Int
  | [] => (s, 0)
  | l :: r => if (s.program a l).2 ≠ 0 then s.program a l else stepP (s.program a l).1 (a + l.length) r

/-- What Write makes of a flash, and answers. -/
def FS.write (s : FS) (a : Int) (p : List UInt8) : FS × Int :=
  if 4080 < p.length then (s, 3)
  else if a % 4 = 0 ∧ s.readErr a (sizeN p.length) ≠ 0 then (s, s.readErr a (sizeN p.length))
  else stepP s a [headB p.length, bodyB p, [0, 0, 0, 0]]

theorem idx_parts0 (a0 a1 a2 : Option Addr) (n0 n1 n2 c0 c1 c2 : Nat) (w : World) : (Instr.index 132 (.agg #[.slice a0 n0 c0, .slice a1 n1 c1, .slice a2 n2 c2]) (.int .i64 ((0 : Nat) : Int))).run Tryz.prog w = .ok (.slice a0 n0 c0) w := by kernel_rfl
theorem idx_parts1 (a0 a1 a2 : Option Addr) (n0 n1 n2 c0 c1 c2 : Nat) (w : World) : (Instr.index 132 (.agg #[.slice a0 n0 c0, .slice a1 n1 c1, .slice a2 n2 c2]) (.int .i64 ((1 : Nat) : Int))).run Tryz.prog w = .ok (.slice a1 n1 c1) w := by kernel_rfl
theorem idx_parts2 (a0 a1 a2 : Option Addr) (n0 n1 n2 c0 c1 c2 : Nat) (w : World) : (Instr.index 132 (.agg #[.slice a0 n0 c0, .slice a1 n1 c1, .slice a2 n2 c2]) (.int .i64 ((2 : Nat) : Int))).run Tryz.prog w = .ok (.slice a2 n2 c2) w := by kernel_rfl

theorem idx_parts (a0 a1 a2 : Option Addr) (n0 n1 n2 c0 c1 c2 k : Nat) (u : Value) (hu : [Value.slice a0 n0 c0, Value.slice a1 n1 c1, Value.slice a2 n2 c2][k]? = some u) (w : World) :
    (Instr.index 132 (.agg #[.slice a0 n0 c0, .slice a1 n1 c1, .slice a2 n2 c2]) (.int .i64 k)).run Tryz.prog w = .ok u w := by
  match k, hu with
  | 0, hu => obtain rfl : Value.slice a0 n0 c0 = u := by simpa using hu
             exact idx_parts0 ..
  | 1, hu => obtain rfl : Value.slice a1 n1 c1 = u := by simpa using hu
             exact idx_parts1 ..
  | 2, hu => obtain rfl : Value.slice a2 n2 c2 = u := by simpa using hu
             exact idx_parts2 ..
  | k + 3, hu => simp at hu

theorem FS.let_has {s : FS} {a : Nat} {n : Nat} {g : UInt8 → Nat → UInt8 → UInt8} : (s.let a n g).1.bs.length = s.bs.length := by
  unfold FS.let
  split <;> simp [span]

theorem program_len (s : FS) (a : Int) (l : List UInt8) : (s.program a l).1.bs.length = s.bs.length := by
  unfold FS.program
  split
  · rfl
  · exact FS.let_has

theorem program_zero {s : FS} {a : Int} {l : List UInt8} (h : (s.program a l).2 = 0) (hl : l ≠ []) : s.has a l.length := by
  unfold FS.program at h
  split at h
  · rename_i hc
    rcases hc with hc | hc
    · exact absurd h hc
    · exact absurd hc hl
  · rename_i hc
    by_cases h0 : s.mayProgram a l.length = 0
    · exact (FS.mayProgram_zero h0).2
    · exact absurd (Or.inl h0) hc

set_option maxRecDepth 100000 in
set_option maxHeartbeats 1000000 in
theorem Write_long (w : World) (p : Option Addr) (a : Int) (x : Option Addr) (n cap : Nat) (hn : 4080 < n) (hn2 : n ≤ 9223372036854775807) :
    Calls Tryz.prog 47 #[.pointer p, .int .i64 a, .slice x n cap] w fun e w' => e = .returned (.int .i64 3) ∧ w = w' := by
  go_enter Tryz.func47, Tryz.ntmps47
  go_wp2
  go_ret
  exact ⟨rfl, rfl⟩

set_option maxRecDepth 100000 in
set_option maxHeartbeats 1000000 in
theorem Write_early (w : World) (p : Option Addr) (a : Int) (x : Option Addr) (n cap : Nat) (hn : n ≤ 4080) (e0 : Int) (he : e0 ≠ 0)
    (hW : Calls Tryz.prog 76 #[.pointer p, .int .i64 a, .int .i64 (sizeN n)] w fun e w' => e = .returned (.int .i64 e0) ∧ Keeps [] w w') :
    Calls Tryz.prog 47 #[.pointer p, .int .i64 a, .slice x n cap] w fun e w' => e = .returned (.int .i64 e0) ∧ Keeps [] w w' := by
  have HS := Lib.hid (Size_ok w n hn)
  have HW := Lib.hid hW
  have hb : ((e0 != 0) : Bool) = true := by simpa using he
  clear hW he
  generalize sizeN n = z at *
  go_enter Tryz.func47, Tryz.ntmps47
  go_wp2_with (first | (go_at_call 28; refine HS.out.mono ?_; rintro e w' ⟨rfl, rfl⟩) | (go_at_call 76; refine HW.out.mono ?_; rintro e w1 ⟨rfl, k1⟩; have K1 := Lib.hid k1; clear k1))
  go_ret
  exact ⟨rfl, K1.out⟩

set_option maxRecDepth 100000 in
set_option maxHeartbeats 2000000 in
theorem Write_parts {F B W M : Nat} {s : FS} (w : World) (hF : FlashAt w F B W M s) (a : Int) (pv : Value) (p : List UInt8) (Mp : Nat) (rp : Reads w pv p Mp) (hp : p.length ≤ 4080)
    (hW : Calls Tryz.prog 76 #[.pointer (some ⟨F, 0, none⟩), .int .i64 a, .int .i64 (sizeN p.length)] w fun e w' => e = .returned (.int .i64 0) ∧ Keeps [] w w') :
    Calls Tryz.prog 47 #[.pointer (some ⟨F, 0, none⟩), .int .i64 a, pv] w fun e w' =>
      e = .returned (.int .i64 (stepP s a [headB p.length, bodyB p, [0, 0, 0, 0]]).2) ∧ FlashAt w' F B W M (stepP s a [headB p.length, bodyB p, [0, 0, 0, 0]]).1 ∧ Keeps [F, B] w w' := by
  obtain ⟨pa, pc, hpv, hpcap⟩ := rp.shape
  obtain ⟨n, hn⟩ : ∃ n, n = p.length := ⟨_, rfl⟩
  have HN := Lib.hid hn
  have HP := Lib.hid (show ∀ w', Keeps [] w w' → _ from fun w' (hk : Keeps [] w w') => parts_any w' pv p Mp (rp.keeps hk (by simp)) hp)
  rw [← hn] at hW hpv hp
  subst hpv
  have HS := Lib.hid (Size_ok w n hp)
  have HW := Lib.hid hW
  have HF := Lib.hid hF
  have hfl := hF.lt
  clear hW hF rp hpcap
  obtain ⟨z, hz⟩ : ∃ z, z = sizeN n := ⟨_, rfl⟩
  rw [← hz] at HS HW
  obtain ⟨res, hres⟩ : ∃ res, res = stepP s a [headB p.length, bodyB p, [0, 0, 0, 0]] := ⟨_, rfl⟩
  have HRES := Lib.hid hres
  rw [← hres]
  clear hz hres hn
  go_enter Tryz.func47, Tryz.ntmps47
  go_wp2_with (first | (go_at_call 28; refine HS.out.mono ?_; rintro e w' ⟨rfl, rfl⟩) | (go_at_call 76; refine HW.out.mono ?_; rintro e w1 ⟨rfl, k1⟩; have K1 := Lib.hid k1; clear k1) | (go_at_call 77; refine (HP.out _ K1.out).mono ?_; rintro e w2 ⟨v0, v1, v2, rfl, n0, n1, n2, k2⟩; have N0 := Lib.hid n0; have N1 := Lib.hid n1; have N2 := Lib.hid n2; have K2 := Lib.hid k2; clear n0 n1 n2 k2))
  obtain ⟨l0, hl0⟩ : ∃ l, l = headB p.length := ⟨_, rfl⟩
  obtain ⟨l1, hl1⟩ : ∃ l, l = bodyB p := ⟨_, rfl⟩
  obtain ⟨l2, hl2⟩ : ∃ l : List UInt8, l = [0, 0, 0, 0] := ⟨_, rfl⟩
  have hz0 : l0 ≠ [] ∧ l0.length ≤ 5000 := by rw [hl0]; exact ⟨by simp [headB], by rw [headB_length]; decide⟩
  have hz1 : l1 ≠ [] ∧ l1.length ≤ 5000 := by
    have hf := fillN_lt p.length
    have hnp := HN.out
    rw [hl1]
    exact ⟨by intro e; have := congrArg List.length e; rw [bodyB_length] at this; simp at this, by rw [bodyB_length]; omega⟩
  have hz2 : l2 ≠ [] ∧ l2.length ≤ 5000 := by rw [hl2]; exact ⟨by simp, by decide⟩
  rw [← hl0] at N0
  rw [← hl1] at N1
  rw [← hl2] at N2
  rw [← hl0, ← hl1, ← hl2] at HRES
  have HZ := Lib.hid (show ∀ (j : Nat) (l : List UInt8), [l0, l1, l2][j]? = some l → l ≠ [] ∧ l.length ≤ 5000 by
    intro j l hl
    match j, hl with
    | 0, hl => simp at hl; subst hl; exact hz0
    | 1, hl => simp at hl; subst hl; exact hz1
    | 2, hl => simp at hl; subst hl; exact hz2
    | j + 3, hl => simp at hl)
  clear hl0 hl1 hl2 hz0 hz1 hz2
  obtain ⟨a0, c0, rfl, _⟩ := N0.out.shape
  obtain ⟨a1, c1, rfl, _⟩ := N1.out.shape
  obtain ⟨a2, c2, rfl, _⟩ := N2.out.shape
  have HI := Lib.hid (idx_parts a0 a1 a2 l0.length l1.length l2.length c0 c1 c2)
  have HNW := Lib.hid (show ∀ (j : Nat) (u : Value) (l : List UInt8), [Value.slice a0 l0.length c0, Value.slice a1 l1.length c1, Value.slice a2 l2.length c2][j]? = some u → [l0, l1, l2][j]? = some l → New w1.heap.size w2 u l by
    intro j u l hu hl
    match j, hu, hl with
    | 0, hu, hl => simp at hu hl; subst hu hl; exact N0.out
    | 1, hu, hl => simp at hu hl; subst hu hl; exact N1.out
    | 2, hu, hl => simp at hu hl; subst hu hl; exact N2.out
    | j + 3, hu, hl => simp at hu)
  clear N0 N1 N2
  have hs1 := K1.out.size
  have hs2 := K2.out.size
  have K12 := Lib.hid (K1.out.trans K2.out)
  go_loopw [1, 25] (fun av i wr => ∃ (k : Nat) (sk : FS) (ak : Int), k ≤ 3 ∧ i = .int .i64 k ∧ av = .int .i64 ak ∧ FlashAt wr F B W M sk ∧ Hid (res = stepP sk ak ([l0, l1, l2].drop k)) ∧ Keeps [F, B] w wr ∧ Keeps [F, B] w2 wr) (fun _ i _ => 3 - (intOf i).toNat)
  case atStart => exact ⟨0, s, a, by omega, rfl, rfl, HF.out.keeps K12.out (by simp) (by simp) (by simp) (by simp), HRES, K12.out.mono (by simp), Keeps.refl _ _⟩
  case round =>
    obtain ⟨k, sk, ak, hk, rfl, rfl, hFk, hrs, hkw, hk2⟩ := hrel
    have HFK := Lib.hid hFk
    have HKW := Lib.hid hkw
    have HK2 := Lib.hid hk2
    have hlen := hFk.len
    have hfew := hFk.few
    clear hFk hkw hk2
    by_cases hlt : k < 3
    · obtain ⟨l, hl⟩ : ∃ l, [l0, l1, l2][k]? = some l := ⟨_, List.getElem?_eq_getElem (by simpa using hlt)⟩
      obtain ⟨u, hu⟩ : ∃ u, [Value.slice a0 l0.length c0, Value.slice a1 l1.length c1, Value.slice a2 l2.length c2][k]? = some u := ⟨_, List.getElem?_eq_getElem (by simpa using hlt)⟩
      have hdrop : [l0, l1, l2].drop k = l :: [l0, l1, l2].drop (k + 1) := by
        rw [List.drop_eq_getElem_cons (by simpa using hlt), (List.getElem?_eq_some_iff.1 hl).2]
      have hidx := HI.out k u hu
      obtain ⟨Mu, hru, hbu, hlu⟩ := (HNW.out k u l hu hl).keeps HK2.out (by simp; omega)
      obtain ⟨au, cu, rfl, _⟩ := hru.shape
      obtain ⟨hlne, hl5⟩ := HZ.out k l hl
      have hPY := Program_yes wr HFK.out ak _ l Mu hru (by omega) (by omega)
      have hstep : stepP sk ak (l :: [l0, l1, l2].drop (k + 1)) = if (sk.program ak l).2 ≠ 0 then sk.program ak l else stepP (sk.program ak l).1 (ak + l.length) ([l0, l1, l2].drop (k + 1)) := rfl
      have hzero : (sk.program ak l).2 = 0 → 0 ≤ ak ∧ ak + l.length ≤ 65536 := fun h => by
        have := program_zero h hlne
        unfold FS.has at this
        omega
      obtain ⟨q, hq⟩ : ∃ q, q = sk.program ak l := ⟨_, rfl⟩
      rw [← hq] at hPY hstep hzero
      have HRS := Lib.hid (show res = if q.2 ≠ 0 then q else stepP q.1 (ak + l.length) ([l0, l1, l2].drop (k + 1)) by rw [hrs.out, hdrop]; exact hstep)
      have HPY := Lib.hid hPY
      clear hPY hstep hrs hdrop hq hl hu hru
      by_cases he : q.2 = 0
      · obtain ⟨hz1, hz2⟩ := hzero he
        rw [he] at HPY
        have HR2 := Lib.hid (HRS.out.trans (if_neg (by simp [he])))
        clear HRS he hzero
        generalize hln : l.length = ln at *
        clear hln
        go_wp2_with (go_at_call 78; refine HPY.out.mono ?_; rintro e w4 ⟨rfl, hF4, k4⟩; have HF4 := Lib.hid hF4; have K4 := Lib.hid k4; clear hF4 k4)
        go_roundw
        case rel => exact ⟨k + 1, q.1, ak + ln, by omega, by go_num, rfl, HF4.out, HR2, HKW.out.trans K4.out, HK2.out.trans K4.out⟩
        case measure => simp [intOf]; omega
      · have hb : ((q.2 != 0) : Bool) = true := by simpa using he
        have HR2 := Lib.hid (HRS.out.trans (if_pos he))
        clear HRS he hzero
        generalize l.length = ln at *
        obtain ⟨q1, q2⟩ := q
        dsimp only at *
        go_wp2_with (go_at_call 78; refine HPY.out.mono ?_; rintro e w4 ⟨rfl, hF4, k4⟩; have HF4 := Lib.hid hF4; have K4 := Lib.hid k4; clear hF4 k4)
        go_ret
        exact ⟨by rw [HR2.out]; rfl, by rw [HR2.out]; exact HF4.out, HKW.out.trans K4.out⟩
    · obtain rfl : k = 3 := by omega
      have HR2 := Lib.hid (hrs.out.trans (show stepP sk ak ([l0, l1, l2].drop 3) = (sk, 0) from rfl))
      clear hrs
      go_wp2
      go_ret
      exact ⟨by rw [HR2.out]; rfl, by rw [HR2.out]; exact HFK.out, HKW.out⟩

/-- Write, of a flash that is one. -/
theorem Write_any {F B W M : Nat} {s : FS} (w : World) (hF : FlashAt w F B W M s) (a : Int) (pv : Value) (p : List UInt8) (Mp : Nat) (rp : Reads w pv p Mp) (hp : p.length ≤ 9223372036854775807) :
    Calls Tryz.prog 47 #[.pointer (some ⟨F, 0, none⟩), .int .i64 a, pv] w fun e w' => e = .returned (.int .i64 (s.write a p).2) ∧ FlashAt w' F B W M (s.write a p).1 ∧ Keeps [F, B] w w' := by
  unfold FS.write
  by_cases h1 : 4080 < p.length
  · rw [if_pos h1]
    obtain ⟨x, cap, rfl, _⟩ := rp.shape
    exact (Write_long w _ a x p.length cap h1 hp).mono fun _ _ ⟨he, hw⟩ => ⟨he, hw ▸ hF, hw ▸ Keeps.refl _ _⟩
  · rw [if_neg h1]
    have hz : ((sizeN p.length : Nat) : Int) ≤ 9223372036854775807 := by have := fillN_lt p.length; unfold sizeN; omega
    by_cases h2 : a % 4 = 0
    · have hW := recWhole_read w hF a (sizeN p.length) h2 hz
      by_cases h3 : s.readErr a (sizeN p.length) = 0
      · rw [if_neg (fun h => h.2 h3)]
        rw [h3] at hW
        exact Write_parts w hF a pv p Mp rp (by omega) hW
      · rw [if_pos ⟨h2, h3⟩]
        obtain ⟨x, cap, rfl, _⟩ := rp.shape
        exact (Write_early w _ a x p.length cap (by omega) _ h3 hW).mono fun _ _ ⟨he, hk⟩ => ⟨he, hF.keeps hk (by simp) (by simp) (by simp) (by simp), hk.mono (by simp)⟩
    · rw [if_neg (fun h => h2 h.1)]
      exact Write_parts w hF a pv p Mp rp (by omega) ((recWhole_skip w _ a _ h2).mono fun _ _ ⟨he, hw⟩ => ⟨he, hw ▸ Keeps.refl _ _⟩)
end Go.Proofs.YtlnmbfddhdjioaaGreat
