/-
  Contract: the document's Program.
-/
import Derived.Test.YtpcgckppdnlccaaTellsA
namespace Go.Proofs.Ytpcgckppdnlccaa
open Go.RowKit Go.Deep

theorem span_congr (bs : List UInt8) (a k : Nat) (g g' : Nat → UInt8 → UInt8) (h : ∀ i c, i < k → g i c = g' i c) : span bs a k g = span bs a k g' := by
  unfold span
  congr 1
  funext j c
  split
  · exact h _ _ (by omega)
  · rfl

/-- One byte is written. -/
theorem RefAt.byte {w : World} {R C W M : Nat} {s : FS} {ms : List UInt8} (h : RefAt w R C W M s ms) (i : Nat) (x : UInt8) (bs' : List UInt8) (hb : s.bs.set i x = bs') :
    RefAt (w.setCell ⟨C, i, none⟩ (bv x)) R C W M { s with bs := bs' } ms ∧ Keeps [C] w (w.setCell ⟨C, i, none⟩ (bv x)) := by
  subst hb
  obtain ⟨cc, cw, mv, hR, hC, hW, hM⟩ := h.here
  have k : Keeps [C] w (w.setCell ⟨C, i, none⟩ (bv x)) := Keeps.setCell _ (by simp) _
  refine ⟨⟨h.nRC, h.nRW, h.nCW, h.nM, by simpa using h.len, h.few, h.left0, h.left1, h.maskl, fun e => by simpa using h.mask e, cc, cw, mv, ?_, ?_, ?_, ?_⟩, k⟩
  · rw [k.obj hR (by simpa using h.nRC)]; simp [FS.lets]
  · have := hC.set i (bv x)
    rwa [← List.map_set] at this
  · exact hW.keeps k (by simpa using h.nCW.symm)
  · exact hM.keeps k (by simpa using h.nM.2.1)

theorem spent_bs (s : FS) : s.spent.bs = s.bs := by unfold FS.spent; split <;> rfl
theorem spent_wear (s : FS) : s.spent.wear = s.wear := by unfold FS.spent; split <;> rfl
theorem with_bs (s : FS) (bs : List UInt8) (h : s.bs = bs) : { s with bs := bs } = s := by cases s; cases h; rfl

def gTorn (s : FS) (ms b : List UInt8) (i : Nat) (c : UInt8) : UInt8 := clears c (tornT s.tears (ms.getD i 0)) (b.getD i 0)

theorem let_torn (s : FS) (ms b : List UInt8) (a n : Nat) (hm : s.armed = true → s.mask = ms.take s.bs.length) (hn : a + n ≤ s.bs.length) :
    (s.let a n (gClear b)) = ({ s.spent with bs := span s.bs a n (gTorn s ms b) }, if s.tears then 12 else 0) := by
  by_cases ht : s.armed = true ∧ s.left = 0
  · have e2 : s.tears = true := by unfold FS.tears; rw [decide_eq_true ht]
    have e : span s.bs a n (fun i c => gClear b (s.mask.getD i 0) i c) = span s.bs a n (gTorn s ms b) := span_congr _ _ _ _ _ fun i c hi => by
      unfold gClear gTorn
      rw [e2, hm ht.1, List.getD_eq_getElem?_getD, List.getElem?_take, if_pos (by omega)]
      simp [tornT, List.getD_eq_getElem?_getD]
    unfold FS.let FS.spent
    rw [if_pos ht, if_pos ht, e, e2]
    rfl
  · have e2 : s.tears = false := by unfold FS.tears; rw [decide_eq_false ht]
    have e : span s.bs a n (gClear b 255) = span s.bs a n (gTorn s ms b) := span_congr _ _ _ _ _ fun i c hi => by
      unfold gClear gTorn
      rw [e2]; rfl
    unfold FS.let FS.spent
    rw [if_neg ht, if_neg ht, e, e2]
    rfl

set_option maxRecDepth 100000 in
set_option maxHeartbeats 2000000 in
theorem RProgram_some {R C W M : Nat} {s : FS} {ms : List UInt8} (w : World) (h : RefAt w R C W M s ms) (A Mb off n cap : Nat) (b : List UInt8) (hb : b.length = n) (hn0 : 0 < n) (he : s.mayProgram A n = 0)
    (hc : ∀ i c, b[i]? = some c → w.cell? ⟨Mb, off + i, none⟩ = some (bv c)) (hM : Mb ≠ R ∧ Mb ≠ C) :
    Calls Try.prog 33 #[.pointer (some ⟨R, 0, none⟩), .int .i64 A, .slice (some ⟨Mb, off, none⟩) n cap] w
      fun e w' => e = .returned (.int .i64 (s.let A n (gClear b)).2) ∧ RefAt w' R C W M (s.let A n (gClear b)).1 ms ∧ Keeps [R, C] w w' := by
  obtain ⟨cc, cw, mv, c0, c1, c2, c3, c4, cf, rC, rW, rM⟩ := h.cells
  obtain ⟨hd, hh, ha4, hn4⟩ : s.down = false ∧ s.has A n ∧ (A : Int) % 4 = 0 ∧ (n : Int) % 4 = 0 := by
    unfold FS.mayProgram at he
    cases hd : s.down
    · rw [hd] at he
      by_cases h1 : s.has A n
      · by_cases h2 : (A : Int) % 4 ≠ 0 ∨ (n : Int) % 4 ≠ 0
        · simp only [h1, not_true_eq_false, if_false, if_pos h2, Bool.false_eq_true] at he; cases he
        · exact ⟨rfl, h1, by omega, by omega⟩
      · simp only [h1, not_false_eq_true, if_true, Bool.false_eq_true, if_false] at he; cases he
    · rw [hd] at he; simp at he
  rw [hd] at c4
  have hlen := h.len
  have hfew := h.few
  have hAn : A + n ≤ s.bs.length := by unfold FS.has at hh; omega
  have hth := Rthere_any w h A n
  rw [decide_eq_true hh] at hth
  have HTH := Lib.hid hth
  have HGO := Lib.hid (Rgoes_any w h)
  have HL := Lib.hid (let_torn s ms b A n h.mask hAn)
  have ha4' : ((A : Int).tmod 4) = 0 := by rw [Int.tmod_eq_emod_of_nonneg (by omega)]; exact ha4
  have hn4' : ((n : Int).tmod 4) = 0 := by rw [Int.tmod_eq_emod_of_nonneg (by omega)]; exact hn4
  have hnz : ((n : Int) == 0) = false := by rw [beq_eq_false_iff_ne]; omega
  have HC := Lib.hid hc
  have HB := Lib.hid hb
  have hAn2 : A + n ≤ 65536 := by omega
  have HAn := Lib.hid hAn
  clear hd hh he hth hc hb ha4 hn4 rC rW rM cf h hlen hfew c0 c1 c2 c3 hAn
  rw [HL.out]
  obtain ⟨tn, htn⟩ : ∃ tn, s.tears = tn := ⟨_, rfl⟩
  obtain ⟨s1, hs1⟩ : ∃ s1, s.spent = s1 := ⟨_, rfl⟩
  have hs1b : s1.bs = s.bs := by rw [← hs1]; exact spent_bs s
  have HG := Lib.hid (show ∀ i c, gTorn s ms b i c = clears c (tornT tn (ms.getD i 0)) (b.getD i 0) by intro i c; unfold gTorn; rw [htn])
  rw [hs1, htn] at HGO
  rw [htn, hs1]
  generalize gTorn s ms b = g at *
  have HS1 := Lib.hid hs1b
  clear hs1 htn hs1b HL
  go_enter Try.func33, Try.ntmps33
  go_wp2_with (first | (go_at_call 52; refine HTH.out.mono ?_; rintro e w' ⟨rfl, rfl⟩) | fail)
  refine HGO.out.mono ?_
  rintro e w1 ⟨rfl, h1, k1⟩
  have HR1 := Lib.hid h1
  have HK1 := Lib.hid k1
  clear h1 k1
  clear HGO HTH
  go_wp2
  go_loopw [8] (fun i wr => ∃ k : Nat, k ≤ n ∧ i = .int .i64 k ∧ RefAt wr R C W M { s1 with bs := span s.bs A k g } ms ∧ Keeps [R, C] w wr) (fun i _ => n - (intOf i).toNat)
  case atStart => exact ⟨0, Nat.zero_le _, rfl, by rw [span_zero, with_bs _ _ HS1.out]; exact HR1.out, HK1.out.mono (by simp)⟩
  case round =>
    obtain ⟨k, hk, rfl, hRk, hKk⟩ := hrel
    by_cases hlt : k < n
    · have hlt' : (k : Int) < n := by omega
      obtain ⟨cc', cw', mv', d0, d1, d2, d3, d4, df, rC, rW, rM⟩ := hRk.cells
      obtain ⟨old, hold⟩ : ∃ old, s.bs[A + k]? = some old := ⟨_, List.getElem?_eq_getElem (by have := HAn.out; omega)⟩
      have hck : b[k]? = some (b.getD k 0) := by
        have := HB.out
        rw [List.getElem?_eq_getElem (by omega)]
        simp [List.getD, List.getElem?_eq_getElem (show k < b.length by omega)]
      have q0 : wr.cell? ⟨C, A + k, none⟩ = some (bv old) := rC.cell (A + k) (by rw [List.getElem?_map]; show Option.map bv (span s.bs A k g)[A + k]? = _; rw [span_at, hold]; rfl)
      have pc : wr.cell? ⟨Mb, off + k, none⟩ = some (bv (b.getD k 0)) := hKk.cell (HC.out k _ hck) (by simp; exact hM)
      have fz := rC.frozen (A + k)
      have hbl : (span s.bs A k g).length = s.bs.length := span_length _ _ _ _
      have HX := Lib.hid (hRk.byte (A + k) (g k old) (span s.bs A (k + 1) g) (span_set s.bs A k g old hold))
      have hg := HG.out k old
      have HRk := Lib.hid hRk
      have HKk := Lib.hid hKk
      rw [show ({ s1 with bs := span s.bs A k g } : FS).bs.length = s.bs.length from hbl] at d0
      have hAnk : A + k < s.bs.length := by have := HAn.out; omega
      generalize b.getD k 0 = x at *
      generalize hnv : g k old = nv at *
      have HNV := Lib.hid hg
      clear hold hck rC rW rM hRk hKk hbl hg hnv d1 d2 d3 d4 df
      go_wp2
      refine wp_region_tail 26 (by kernel_rfl) (by kernel_rfl) ?_
      intro w2 hw2
      have d0 : w2.cell? ⟨R, 0, none⟩ = some (.slice (some ⟨C, 0, none⟩) s.bs.length cc') := by rw [hw2]; exact d0
      have q0 : w2.cell? ⟨C, A + k, none⟩ = some (bv old) := by rw [hw2]; exact q0
      have pc : w2.cell? ⟨Mb, off + k, none⟩ = some (bv x) := by rw [hw2]; exact pc
      have fz : w2.frozen? ⟨C, A + k, none⟩ = false := by rw [hw2]; exact fz
      have HW := Lib.hid hw2
      have HR2 := Lib.hid (show RefAt w2 R C W M _ ms by rw [hw2]; exact HRk.out.keeps (Keeps.drew [] _) (by simp) (by simp) (by simp) (by simp))
      clear hw2
      have ct := (Rmask_any w2 HR2.out k).mono (R' := fun e w' => e = .returned (bv (ms.getD k 0)) ∧ w' = w2) fun _ _ h => ⟨h.1, h.2.symm⟩
      generalize ms.getD k 0 = mk at *
      have cl := (Rprogrammed_any w2 old x mk tn).mono (R' := fun e w' => e = .returned (bv (clears old (tornT tn mk) x)) ∧ w' = w2) fun _ _ h => ⟨h.1, h.2.symm⟩
      rw [← HNV.out] at cl
      have CT := Lib.hid ct
      have CL := Lib.hid cl
      clear ct cl
      have HX2 := Lib.hid (show RefAt (w2.setCell ⟨C, A + k, none⟩ (bv nv)) R C W M { s1 with bs := span s.bs A (k + 1) g } ms by
        rw [HW.out]; exact HX.out.1.keeps (Keeps.drew [] _) (by simp) (by simp) (by simp) (by simp))
      have hwr : IntKind.i64.wrap ((A : Int) + k) = (A : Int) + k := IntWalk.i64_in _ (by omega)
      have hin : (0 : Int) ≤ (A : Int) + k ∧ (A : Int) + k < s.bs.length := by omega
      have hin2 : ((A : Int) + k).toNat = A + k := by omega
      simp only [List.take_succ_cons, List.take_zero, List.drop_succ_cons, List.drop_zero]
      repeat still_step
      still_call CT.out
      repeat still_step
      still_call CL.out
      repeat still_step
      refine wpStill_nil ?_
      unfold bv at *
      go_wp2
      go_roundw
      case rel => exact ⟨k + 1, by omega, by go_num, HX2.out, (HKk.out.trans (by rw [HW.out]; exact Keeps.drew _ _)).trans (Keeps.setCell _ (by simp) _)⟩
      case measure => simp [intOf]; omega
    · obtain rfl : k = n := by omega
      have hge : ¬ ((k : Int) < k) := by omega
      have HRk := Lib.hid hRk
      have HKk := Lib.hid hKk
      clear hRk hKk
      cases tn
      all_goals
        go_wp2
        go_ret
        exact ⟨rfl, HRk.out, HKk.out⟩
end Go.Proofs.Ytpcgckppdnlccaa
