/-
  Words as bytes: which words are right, and how many bytes they have (the program's and the document's).
-/
import Derived.Test.YtfnjjanknfmibaaImStr
namespace Go.Proofs.Ytfnjjanknfmibaa
open Go.RowKit Go.Deep
set_option linter.unusedVariables false

theorem okC_iff (c : UInt8) : okC c = true ↔ 33 ≤ c.toNat ∧ c.toNat ≤ 126 := by
  unfold okC; simp

theorem all_take_succ {a : List UInt8} {k : Nat} {c : UInt8} (h : a[k]? = some c) (p : UInt8 → Bool) : (a.take (k + 1)).all p = ((a.take k).all p && p c) := by
  rw [List.take_add_one, h]; simp

theorem all_bad {a : List UInt8} {k : Nat} {c : UInt8} (h : a[k]? = some c) (p : UInt8 → Bool) (hp : p c = false) : a.all p = false := by
  rw [List.all_eq_false]
  exact ⟨c, List.mem_of_getElem? h, by simp [hp]⟩

set_option maxRecDepth 100000 in
set_option maxHeartbeats 1000000 in
theorem rightName_any (w : World) (a : List UInt8) (r : Bool) (hr : rightN a = r) : Calls Try.prog 76 #[str a] w fun e w' => e = .returned (.bool r) ∧ w = w' := by
  unfold str
  have hza := str_size a
  have HA := Lib.hid fun (w : World) (k : Nat) (c : UInt8) => run_str_at w a k c
  have HT := Lib.hid (List.take_length (l := a))
  generalize ByteArray.mk a.toArray = s at *
  unfold rightN at hr
  obtain ⟨n, hn⟩ : ∃ n, n = a.length := ⟨_, rfl⟩
  rw [← hn] at hr hza
  have HN := Lib.hid hn
  clear hn
  by_cases h1 : n < 1
  · have h1' : (n : Int) < 1 := by omega
    have HR := Lib.hid (show r = false by rw [← hr, decide_eq_false (by omega)]; rfl)
    clear hr
    go_enter Try.func76, Try.ntmps76
    go_wp2
    go_ret
    exact ⟨by rw [HR.out]; rfl, rfl⟩
  by_cases h2 : 31 < n
  · have h1' : ¬ (n : Int) < 1 := by omega
    have h2' : (31 : Int) < (n : Int) := by omega
    have HR := Lib.hid (show r = false by rw [← hr, decide_eq_false (show ¬ n ≤ 31 by omega)]; simp)
    clear hr
    go_enter Try.func76, Try.ntmps76
    go_wp2
    go_ret
    exact ⟨by rw [HR.out]; rfl, rfl⟩
  have h1' : ¬ (n : Int) < 1 := by omega
  have h2' : ¬ (31 : Int) < (n : Int) := by omega
  have HR := Lib.hid (show r = a.all okC by rw [← hr, decide_eq_true (show 1 ≤ n by omega), decide_eq_true (show n ≤ 31 by omega)]; simp)
  clear hr
  go_enter Try.func76, Try.ntmps76
  go_wp2
  go_loopw [3, 14] (fun _ i wr => ∃ k : Nat, k ≤ n ∧ i = .int .i64 k ∧ wr = w ∧ (a.take k).all okC = true) (fun _ i _ => n - (intOf i).toNat)
  case atStart => exact ⟨0, Nat.zero_le _, rfl, rfl, by simp⟩
  case round =>
    obtain ⟨k, hk, rfl, rfl, he⟩ := hrel
    have HE := Lib.hid he
    clear he
    by_cases hlt : k < n
    · obtain ⟨c, hc⟩ : ∃ c, a[k]? = some c := ⟨_, List.getElem?_eq_getElem (by have := HN.out; omega)⟩
      have ia := fun w => HA.out w k c hc
      have HO := Lib.hid (okC_iff c)
      have HS := Lib.hid (all_take_succ hc okC)
      have HB := Lib.hid (all_bad hc okC)
      clear hc
      unfold bv at *
      by_cases g1 : c.toNat < 33
      · have g1' : (c.toNat : Int) < 33 := by omega
        have HF := Lib.hid (show okC c = false by rw [Bool.eq_false_iff]; intro h; have := HO.out.1 h; omega)
        generalize (c.toNat : Int) = x at *
        go_wp2
        go_ret
        exact ⟨by rw [HR.out, HB.out HF.out]; rfl, rfl⟩
      by_cases g2 : 126 < c.toNat
      · have g1' : ¬ (c.toNat : Int) < 33 := by omega
        have g2' : (126 : Int) < (c.toNat : Int) := by omega
        have HF := Lib.hid (show okC c = false by rw [Bool.eq_false_iff]; intro h; have := HO.out.1 h; omega)
        generalize (c.toNat : Int) = x at *
        go_wp2
        go_ret
        exact ⟨by rw [HR.out, HB.out HF.out]; rfl, rfl⟩
      have g1' : ¬ (c.toNat : Int) < 33 := by omega
      have g2' : ¬ (126 : Int) < (c.toNat : Int) := by omega
      have HF := Lib.hid (show okC c = true from HO.out.2 (by omega))
      generalize (c.toNat : Int) = x at *
      go_wp2
      go_roundw
      case rel => exact ⟨k + 1, by omega, by go_num, by first | rfl | trivial, by rw [HS.out, HE.out, HF.out]; rfl⟩
      case measure => simp [intOf]; omega
    · have hkn : k = n := by omega
      have HK := Lib.hid (show a.all okC = true by have := HE.out; rw [hkn, HN.out, HT.out] at this; exact this)
      subst hkn
      go_wp2
      go_ret
      exact ⟨by rw [HR.out, HK.out]; rfl, rfl⟩

/-- A word, as a value. -/
def wvl (x : Wd) (a : Option Addr) (cap : Nat) : Value := .agg #[str x.name, bv x.flags, .slice a x.code.length cap]

set_option maxRecDepth 100000 in
set_option maxHeartbeats 1000000 in
theorem Right_any (w : World) (x : Wd) (a : Option Addr) (cap : Nat) (r : Bool) (hr : rightW x = r) : Calls Try.prog 66 #[wvl x a cap] w fun e w' => e = .returned (.bool r) ∧ Keeps [] w w' := by
  unfold wvl
  unfold rightW at hr
  have HN := Lib.hid fun (w : World) => rightName_any w x.name _ rfl
  unfold str bv at *
  generalize ByteArray.mk x.name.toArray = s at *
  generalize x.code.length = n at *
  have hf := x.flags.toNat_lt
  generalize x.flags.toNat = f at *
  generalize rightN x.name = q at *
  cases q with
  | false =>
    have HR := Lib.hid (show r = false by rw [← hr]; rfl)
    clear hr
    go_enter Try.func66, Try.ntmps66
    go_wp2_with (go_at_call 76; refine (HN.out _).mono ?_; rintro e w' ⟨rfl, rfl⟩)
    go_ret
    exact ⟨by rw [HR.out]; first | rfl | exact congrArg (fun b => Ending.returned (.bool b)) (by simp; omega), Keeps.alloc _ _ _⟩
  | true =>
    by_cases h1 : f ≤ 3
    · have h1' : (f : Int) ≤ 3 := by omega
      by_cases h2 : n ≤ 1000
      · have h2' : (n : Int) ≤ 1000 := by omega
        have HR := Lib.hid (show r = true by rw [← hr, decide_eq_true h1, decide_eq_true h2]; rfl)
        clear hr
        go_enter Try.func66, Try.ntmps66
        go_wp2_with (go_at_call 76; refine (HN.out _).mono ?_; rintro e w' ⟨rfl, rfl⟩)
        go_ret
        exact ⟨by rw [HR.out]; first | rfl | exact congrArg (fun b => Ending.returned (.bool b)) (by simp; omega), Keeps.alloc _ _ _⟩
      · have h2' : ¬ (n : Int) ≤ 1000 := by omega
        have HR := Lib.hid (show r = false by rw [← hr, decide_eq_false h2]; simp)
        clear hr
        go_enter Try.func66, Try.ntmps66
        go_wp2_with (go_at_call 76; refine (HN.out _).mono ?_; rintro e w' ⟨rfl, rfl⟩)
        go_ret
        exact ⟨by rw [HR.out]; first | rfl | exact congrArg (fun b => Ending.returned (.bool b)) (by simp; omega), Keeps.alloc _ _ _⟩
    · have h1' : ¬ (f : Int) ≤ 3 := by omega
      have HR := Lib.hid (show r = false by rw [← hr, decide_eq_false h1]; simp)
      clear hr
      go_enter Try.func66, Try.ntmps66
      go_wp2_with (go_at_call 76; refine (HN.out _).mono ?_; rintro e w' ⟨rfl, rfl⟩)
      go_ret
      exact ⟨by rw [HR.out]; first | rfl | exact congrArg (fun b => Ending.returned (.bool b)) (by simp; omega), Keeps.alloc _ _ _⟩

set_option maxRecDepth 100000 in
set_option maxHeartbeats 1000000 in
theorem r10Right_any (w : World) (x : Wd) (ao : Option Addr) (cap : Nat) (r : Bool) (hr : rightW x = r) : Calls Try.prog 69 #[wvl x ao cap] w fun e w' => e = .returned (.bool r) ∧ Keeps [] w w' := by
  unfold wvl
  unfold rightW rightN at hr
  unfold str
  have hza := str_size x.name
  have HA := Lib.hid fun (w : World) (k : Nat) (c : UInt8) => run_str_at w x.name k c
  have HT := Lib.hid (List.take_length (l := x.name))
  generalize ByteArray.mk x.name.toArray = s at *
  generalize x.name = a at *
  generalize x.code.length = m at *
  have hf := x.flags.toNat_lt
  unfold bv at *
  generalize x.flags.toNat = f at *
  obtain ⟨n, hn⟩ : ∃ n, n = a.length := ⟨_, rfl⟩
  rw [← hn] at hr hza
  have HN := Lib.hid hn
  clear hn
  by_cases h1 : n < 1
  · have h1' : (n : Int) < 1 := by omega
    have HR := Lib.hid (show r = false by rw [← hr, decide_eq_false (show ¬ 1 ≤ n by omega)]; rfl)
    clear hr
    go_enter Try.func69, Try.ntmps69
    go_wp2
    go_ret
    exact ⟨by rw [HR.out]; rfl, Keeps.alloc _ _ _⟩
  have h1' : ¬ (n : Int) < 1 := by omega
  by_cases h2 : 31 < n
  · have h2' : (31 : Int) < (n : Int) := by omega
    have HR := Lib.hid (show r = false by rw [← hr, decide_eq_false (show ¬ n ≤ 31 by omega)]; simp)
    clear hr
    go_enter Try.func69, Try.ntmps69
    go_wp2
    go_ret
    exact ⟨by rw [HR.out]; rfl, Keeps.alloc _ _ _⟩
  have h2' : ¬ (31 : Int) < (n : Int) := by omega
  by_cases h3 : 3 < f
  · have h3' : (3 : Int) < (f : Int) := by omega
    have HR := Lib.hid (show r = false by rw [← hr, decide_eq_false (show ¬ f ≤ 3 by omega)]; simp)
    clear hr
    go_enter Try.func69, Try.ntmps69
    go_wp2
    go_ret
    exact ⟨by rw [HR.out]; rfl, Keeps.alloc _ _ _⟩
  have h3' : ¬ (3 : Int) < (f : Int) := by omega
  by_cases h4 : 1000 < m
  · have h4' : (1000 : Int) < (m : Int) := by omega
    have HR := Lib.hid (show r = false by rw [← hr, decide_eq_false (show ¬ m ≤ 1000 by omega)]; simp)
    clear hr
    go_enter Try.func69, Try.ntmps69
    go_wp2
    go_ret
    exact ⟨by rw [HR.out]; rfl, Keeps.alloc _ _ _⟩
  have h4' : ¬ (1000 : Int) < (m : Int) := by omega
  have HR := Lib.hid (show r = a.all okC by rw [← hr, decide_eq_true (show 1 ≤ n by omega), decide_eq_true (show n ≤ 31 by omega), decide_eq_true (show f ≤ 3 by omega), decide_eq_true (show m ≤ 1000 by omega)]; simp)
  clear hr
  go_enter Try.func69, Try.ntmps69
  go_wp2
  generalize hV : World.alloc w _ = V
  have c0 : V.cell? ⟨w.heap.size, 0, none⟩ = some (.string s) := by rw [← hV]; exact cell_alloc_new _ _ _ 0
  have KV := Lib.hid (show Keeps [] w V by rw [← hV]; exact Keeps.alloc _ _ _)
  clear hV
  go_loopw [3] (fun i wr => ∃ k : Nat, k ≤ n ∧ i = .int .i64 k ∧ wr = V ∧ (a.take k).all okC = true) (fun i _ => n - (intOf i).toNat)
  case atStart => exact ⟨0, Nat.zero_le _, rfl, rfl, by simp⟩
  case round =>
    obtain ⟨k, hk, rfl, rfl, he⟩ := hrel
    have HE := Lib.hid he
    clear he
    by_cases hlt : k < n
    · obtain ⟨c, hc⟩ : ∃ c, a[k]? = some c := ⟨_, List.getElem?_eq_getElem (by have := HN.out; omega)⟩
      have ia := fun w => HA.out w k c hc
      have HO := Lib.hid (okC_iff c)
      have HS := Lib.hid (all_take_succ hc okC)
      have HB := Lib.hid (all_bad hc okC)
      clear hc
      unfold bv at *
      by_cases g1 : c.toNat < 33
      · have g1' : (c.toNat : Int) < 33 := by omega
        have HF := Lib.hid (show okC c = false by rw [Bool.eq_false_iff]; intro h; have := HO.out.1 h; omega)
        generalize (c.toNat : Int) = x at *
        go_wp2
        go_ret
        exact ⟨by rw [HR.out, HB.out HF.out]; rfl, KV.out⟩
      by_cases g2 : 126 < c.toNat
      · have g1' : ¬ (c.toNat : Int) < 33 := by omega
        have g2' : (126 : Int) < (c.toNat : Int) := by omega
        have HF := Lib.hid (show okC c = false by rw [Bool.eq_false_iff]; intro h; have := HO.out.1 h; omega)
        generalize (c.toNat : Int) = x at *
        go_wp2
        go_ret
        exact ⟨by rw [HR.out, HB.out HF.out]; rfl, KV.out⟩
      have g1' : ¬ (c.toNat : Int) < 33 := by omega
      have g2' : ¬ (126 : Int) < (c.toNat : Int) := by omega
      have HF := Lib.hid (show okC c = true from HO.out.2 (by omega))
      generalize (c.toNat : Int) = x at *
      go_wp2
      go_roundw
      case rel => exact ⟨k + 1, by omega, by go_num, by first | rfl | trivial, by rw [HS.out, HE.out, HF.out]; rfl⟩
      case measure => simp [intOf]; omega
    · have hkn : k = n := by omega
      have HK := Lib.hid (show a.all okC = true by have := HE.out; rw [hkn, HN.out, HT.out] at this; exact this)
      subst hkn
      go_wp2
      go_ret
      exact ⟨by rw [HR.out, HK.out]; rfl, KV.out⟩
end Go.Proofs.Ytfnjjanknfmibaa
