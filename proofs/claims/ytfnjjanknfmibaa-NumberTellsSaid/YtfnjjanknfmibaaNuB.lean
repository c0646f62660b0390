/-
  Package number: a letter between quotes; signs; a point at the end.
-/
import Derived.Test.YtfnjjanknfmibaaNuA
import Derived.Laws.RangeAny
import Derived.LoopTactic
import Derived.Laws.Strings3
namespace Go.Proofs.Ytfnjjanknfmibaa
open Go.RowKit Go.Deep
set_option linter.unusedVariables false

theorem run_str_from (w : World) (l : List UInt8) (i : Nat) (h : i ≤ l.length) : (Instr.slice 9 (.string ⟨l.toArray⟩) (some (.int .i64 i)) none none).run Try.prog w = .ok (str (l.drop i)) w := by
  rw [run_slice_string_from_if w 9 _ .i64 _ Try.underlying9, if_pos ⟨by omega, by rw [str_size]; omega⟩, ByteArray.extract_mk, str_size]
  unfold str
  rw [List.take_of_length_le (by simp)]
  rfl
theorem run_str_to (w : World) (l : List UInt8) (j : Nat) (h : j ≤ l.length) : (Instr.slice 9 (.string ⟨l.toArray⟩) none (some (.int .i64 j)) none).run Try.prog w = .ok (str (l.take j)) w := by
  rw [run_slice_string_to_if w 9 _ .i64 _ Try.underlying9, if_pos ⟨by omega, by rw [str_size]; omega⟩, ByteArray.extract_mk]
  unfold str
  simp
theorem str_at (l : List UInt8) (pos : Nat) (c : UInt8) (u : List UInt8) (h : l.drop pos = c :: u) : ∃ hp : pos < (ByteArray.mk l.toArray).size, ((ByteArray.mk l.toArray)[pos]'hp) = c ∧ pos < l.length ∧ l.drop (pos + 1) = u := by
  have hlt : pos < l.length := by
    by_cases hh : pos < l.length
    · exact hh
    · rw [List.drop_of_length_le (by omega)] at h; cases h
  have h2 : l[pos]'hlt = c ∧ l.drop (pos + 1) = u := by
    rw [List.drop_eq_getElem_cons hlt] at h
    injection h with e1 e2
    exact ⟨e1, e2⟩
  exact ⟨by rw [str_size]; exact hlt, h2.1, hlt, h2.2⟩

theorem iter_keeps (w : World) (s : ByteArray) (pos : Nat) : Keeps [] w (w.iter s pos) := Keeps.alloc [] w _

theorem ret_three {a b x : Value} {c : Value} {d : Int} (h : a = b) : Ending.returned (.tuple #[a, x, c]) = .returned (.tuple #[b, x, c]) := by rw [h]

theorem uns_stop {first : Bool} {b : Nat} {m : Bool} {c : UInt8} {u : List UInt8} (h1 : first = true → c.toNat ≠ 35 ∧ c.toNat ≠ 36 ∧ c.toNat ≠ 37) (h2 : c.toNat = 45 → m = true) : unsG first b m (c :: u) = (c :: u, b, m) := by
  unfold unsG
  rw [if_neg (fun h => (h1 h.1).1 h.2), if_neg (fun h => (h1 h.1).2.1 h.2), if_neg (fun h => (h1 h.1).2.2 h.2), if_neg (fun h => by have := h2 h.1; rw [h.2] at this; cases this)]

set_option maxRecDepth 100000 in
set_option maxHeartbeats 2000000 in
theorem nUnsigned_any (w : World) (l : List UInt8) (b : Nat) : Calls Try.prog 47 #[str l, .int .u32 (b : Int)] w fun e w' =>
    e = .returned (.tuple #[str (unsG true b false l).1, .int .u32 ((unsG true b false l).2.1 : Int), .bool (unsG true b false l).2.2]) ∧ Keeps [] w w' := by
  obtain ⟨R, hR⟩ : ∃ R, R = unsG true b false l := ⟨_, rfl⟩
  rw [← hR]
  have HA := Lib.hid (fun (pos : Nat) (c : UInt8) (u : List UInt8) (h : l.drop pos = c :: u) => str_at l pos c u h)
  have HF := Lib.hid (fun (W : World) (i : Nat) (h : i ≤ l.length) => run_str_from W l i h)
  have HZ := Lib.hid (str_size l)
  have HR := Lib.hid hR
  clear hR
  unfold str
  generalize hS : ByteArray.mk l.toArray = S at *
  have HS := Lib.hid hS
  clear hS
  go_enter Try.func47, Try.ntmps47
  go_wp2
  go_loopw [1, 6] (fun bv mv wr => ∃ (pos bb : Nat) (mm : Bool), wr = w.iter S pos ∧ bv = .int .u32 (bb : Int) ∧ mv = .bool mm ∧ Hid (unsG (decide (pos = 0)) bb mm (l.drop pos) = R) ∧ Hid (pos ≤ l.length)) (fun _ _ wr => l.length - wr.iterPos w.heap.size)
  case atStart => exact ⟨0, b, false, rfl, rfl, rfl, Lib.hid HR.out.symm, Lib.hid (by omega)⟩
  case round =>
    obtain ⟨pos, bb, mm, rfl, rfl, rfl, HI, HL⟩ := hrel
    cases hd : l.drop pos with
    | nil =>
      have hp : ¬ pos < S.size := by
        rw [HZ.out]
        have := congrArg List.length hd
        simp at this
        omega
      have hnx : ∀ ty, (Instr.next (.pointer (some ⟨w.heap.size, 0, none⟩)) true ty).run Try.prog (w.iter S pos) = _ := fun ty => run_next_end w S pos ty hp
      have HD := Lib.hid hd
      clear hd hp
      go_wp2
      have e := HI.out
      rw [HD.out] at e
      rw [← e]
      exact bodyPost_ret (v := .tuple #[.string ⟨#[]⟩, .int .u32 (bb : Int), .bool mm]) (by simp [results, Try.results47, go_sem]) rfl ⟨rfl, iter_keeps _ _ _⟩
    | cons c u =>
      obtain ⟨hp, hc, hlt, hdu⟩ := HA.out pos c u hd
      rw [hd] at HI
      obtain ⟨n, hn⟩ : ∃ n, n = c.toNat := ⟨_, rfl⟩
      have HC := Lib.hid hn
      have HD := Lib.hid hd
      have HDU := Lib.hid hdu
      have HLT := Lib.hid hlt
      by_cases ha : n < 128
      · have hnx : ∀ ty, (Instr.next (.pointer (some ⟨w.heap.size, 0, none⟩)) true ty).run Try.prog (w.iter S pos) = .ok (.tuple #[.bool true, .int .i64 (pos : Int), .int .i32 (n : Int)]) (w.iter S (pos + 1)) := fun ty => by
          rw [run_next_ascii w S pos ty hp (by rw [hc, ← hn]; exact ha), hc, ← hn]
        have hsl := fun W => HF.out W pos (Nat.le_of_lt hlt)
        clear hp hc hd hdu hlt hn ha
        by_cases p0 : pos = 0
        · subst p0
          by_cases n1 : n = 35
          · have HI2 := Lib.hid (show unsG (decide (0 + 1 = 0)) 10 mm (l.drop (0 + 1)) = R by rw [← HI.out, HDU.out, unsG.eq_2, if_pos ⟨rfl, by rw [← HC.out, n1]⟩]; rfl)
            subst n1
            go_wp2
            go_roundw
            case rel => exact ⟨0 + 1, 10, mm, rfl, rfl, rfl, HI2, Lib.hid HLT.out⟩
            case measure => simp; have := HLT.out; omega
          by_cases n2 : n = 36
          · have HI2 := Lib.hid (show unsG (decide (0 + 1 = 0)) 16 mm (l.drop (0 + 1)) = R by rw [← HI.out, HDU.out, unsG.eq_2, if_neg (fun h => by rw [← HC.out, n2] at h; exact absurd h.2 (by decide)), if_pos ⟨rfl, by rw [← HC.out, n2]⟩]; rfl)
            subst n2
            go_wp2
            go_roundw
            case rel => exact ⟨0 + 1, 16, mm, rfl, rfl, rfl, HI2, Lib.hid HLT.out⟩
            case measure => simp; have := HLT.out; omega
          by_cases n3 : n = 37
          · have HI2 := Lib.hid (show unsG (decide (0 + 1 = 0)) 2 mm (l.drop (0 + 1)) = R by rw [← HI.out, HDU.out, unsG.eq_2, if_neg (fun h => by rw [← HC.out, n3] at h; exact absurd h.2 (by decide)), if_neg (fun h => by rw [← HC.out, n3] at h; exact absurd h.2 (by decide)), if_pos ⟨rfl, by rw [← HC.out, n3]⟩]; rfl)
            subst n3
            go_wp2
            go_roundw
            case rel => exact ⟨0 + 1, 2, mm, rfl, rfl, rfl, HI2, Lib.hid HLT.out⟩
            case measure => simp; have := HLT.out; omega
          have q1 : ((n : Int) == 35) = false := by simp; omega
          have q2 : ((n : Int) == 36) = false := by simp; omega
          have q3 : ((n : Int) == 37) = false := by simp; omega
          by_cases hm : n = 45 ∧ mm = false
          · obtain ⟨hm, rfl⟩ := hm
            have HI2 := Lib.hid (show unsG (decide (0 + 1 = 0)) bb true (l.drop (0 + 1)) = R by rw [← HI.out, HDU.out, unsG.eq_2, if_neg (fun h => n1 (by rw [HC.out]; exact h.2)), if_neg (fun h => n2 (by rw [HC.out]; exact h.2)), if_neg (fun h => n3 (by rw [HC.out]; exact h.2)), if_pos ⟨by rw [← HC.out, hm], rfl⟩]; rfl)
            subst hm
            clear n1 n2 n3
            go_wp2
            go_roundw
            case rel => exact ⟨0 + 1, bb, true, rfl, rfl, rfl, HI2, Lib.hid HLT.out⟩
            case measure => simp; have := HLT.out; omega
          · have e := uns_stop (first := decide (0 = 0)) (b := bb) (m := mm) (c := c) (u := u) (fun _ => by rw [← HC.out]; exact ⟨n1, n2, n3⟩) (fun h => by cases mm; exact absurd ⟨by rw [HC.out]; exact h, rfl⟩ hm; rfl)
            have HE := Lib.hid (show R = (l.drop 0, bb, mm) by rw [← HI.out, e, HD.out])
            have q4 : n ≠ 45 ∨ mm = true := by cases mm <;> simp at hm ⊢; exact hm
            clear n1 n2 n3 hm e
            rcases q4 with q4 | rfl
            · have q5 : ((n : Int) == 45) = false := by simp; omega
              clear q4
              go_wp2
              rw [HE.out]
              exact bodyPost_ret (v := .tuple #[.string S, .int .u32 (bb : Int), .bool mm]) (by simp [results, Try.results47, go_sem]) rfl ⟨by rw [← HS.out]; rfl, iter_keeps _ _ _⟩
            · by_cases q5 : n = 45
              · subst q5
                go_wp2
                rw [HE.out]
                exact bodyPost_ret (v := .tuple #[.string S, .int .u32 (bb : Int), .bool true]) (by simp [results, Try.results47, go_sem]) rfl ⟨by rw [← HS.out]; rfl, iter_keeps _ _ _⟩
              · have q5' : ((n : Int) == 45) = false := by simp; omega
                clear q5
                go_wp2
                rw [HE.out]
                exact bodyPost_ret (v := .tuple #[.string S, .int .u32 (bb : Int), .bool true]) (by simp [results, Try.results47, go_sem]) rfl ⟨by rw [← HS.out]; rfl, iter_keeps _ _ _⟩
        · have q0 : ((pos : Int) == 0) = false := by simp; omega
          have P0 := Lib.hid p0
          clear p0
          by_cases hm : n = 45 ∧ mm = false
          · obtain ⟨hm, rfl⟩ := hm
            have HI2 := Lib.hid (show unsG (decide (pos + 1 = 0)) bb true (l.drop (pos + 1)) = R by rw [← HI.out, HDU.out, unsG.eq_2, decide_eq_false P0.out, if_neg (fun h => by cases h.1), if_neg (fun h => by cases h.1), if_neg (fun h => by cases h.1), if_pos ⟨by rw [← HC.out, hm], rfl⟩]; rfl)
            subst hm
            go_wp2
            go_roundw
            case rel => exact ⟨pos + 1, bb, true, rfl, rfl, rfl, HI2, Lib.hid HLT.out⟩
            case measure => simp; have := HLT.out; omega
          · have e := uns_stop (first := decide (pos = 0)) (b := bb) (m := mm) (c := c) (u := u) (fun h => absurd (of_decide_eq_true h) P0.out) (fun h => by cases mm; exact absurd ⟨by rw [HC.out]; exact h, rfl⟩ hm; rfl)
            have HE := Lib.hid (show R = (l.drop pos, bb, mm) by rw [← HI.out, e, HD.out])
            have q4 : n ≠ 45 ∨ mm = true := by cases mm <;> simp at hm ⊢; exact hm
            clear hm e
            rcases q4 with q4 | rfl
            · have q5 : ((n : Int) == 45) = false := by simp; omega
              clear q4
              go_wp2
              rw [HE.out]
              exact bodyPost_ret (v := .tuple #[str (l.drop pos), .int .u32 (bb : Int), .bool mm]) (by simp [results, Try.results47, go_sem]) rfl ⟨rfl, iter_keeps _ _ _⟩
            · by_cases q5 : n = 45
              · subst q5
                go_wp2
                rw [HE.out]
                exact bodyPost_ret (v := .tuple #[str (l.drop pos), .int .u32 (bb : Int), .bool true]) (by simp [results, Try.results47, go_sem]) rfl ⟨rfl, iter_keeps _ _ _⟩
              · have q5' : ((n : Int) == 45) = false := by simp; omega
                clear q5
                go_wp2
                rw [HE.out]
                exact bodyPost_ret (v := .tuple #[str (l.drop pos), .int .u32 (bb : Int), .bool true]) (by simp [results, Try.results47, go_sem]) rfl ⟨rfl, iter_keeps _ _ _⟩
      · obtain ⟨r1, r2⟩ := decode_high S pos hp (by rw [hc, ← hn]; omega)
        obtain ⟨q, hq⟩ : ∃ q, q = (Utf8.decode S pos).1 := ⟨_, rfl⟩
        have hnx : ∀ ty, (Instr.next (.pointer (some ⟨w.heap.size, 0, none⟩)) true ty).run Try.prog (w.iter S pos) = .ok (.tuple #[.bool true, .int .i64 (pos : Int), .int .i32 q]) (w.iter S (pos + (Utf8.decode S pos).2)) := fun ty => by
          rw [run_next_any w S pos ty hp, hq]
        rw [← hq] at r1
        generalize (Utf8.decode S pos).2 = wd at *
        have hsl := fun W => HF.out W pos (Nat.le_of_lt hlt)
        have e := uns_stop (first := decide (pos = 0)) (b := bb) (m := mm) (c := c) (u := u) (fun h => by rw [← hn]; omega) (fun h => by omega)
        have HE := Lib.hid (show R = (l.drop pos, bb, mm) by rw [← HI.out, e, HD.out])
        have q1 : ((q : Int) == 35) = false := by simp; omega
        have q2 : ((q : Int) == 36) = false := by simp; omega
        have q3 : ((q : Int) == 37) = false := by simp; omega
        have q4 : ((q : Int) == 45) = false := by simp; omega
        clear hp hc hd hdu hlt hn ha e r1 r2 hq
        by_cases p0 : pos = 0
        · subst p0
          go_wp2
          rw [HE.out]
          exact bodyPost_ret (v := .tuple #[.string S, .int .u32 (bb : Int), .bool mm]) (by simp [results, Try.results47, go_sem]) rfl ⟨by rw [← HS.out]; rfl, iter_keeps _ _ _⟩
        · have q0 : ((pos : Int) == 0) = false := by simp; omega
          clear p0
          go_wp2
          rw [HE.out]
          exact bodyPost_ret (v := .tuple #[str (l.drop pos), .int .u32 (bb : Int), .bool mm]) (by simp [results, Try.results47, go_sem]) rfl ⟨rfl, iter_keeps _ _ _⟩
end Go.Proofs.Ytfnjjanknfmibaa
