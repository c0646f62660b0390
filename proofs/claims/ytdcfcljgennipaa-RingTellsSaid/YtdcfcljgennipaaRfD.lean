/-
  Contracts of the document's own record (lightshipref04): At.
-/
import Derived.Test.YtdcfcljgennipaaRfC
namespace Go.Proofs.Ytdcfcljgennipaa
open Go.RowKit

theorem headI_cases (b : List UInt8) : (headI b = -1 ∧ firstL b = ⟨min 4 b.length, 3, []⟩) ∨
    ∃ n : Nat, headI b = (n : Int) ∧ n ≤ 4080 ∧ sizeN n ≤ b.length ∧ firstL b = if b.take (sizeN n) = recB ((b.drop 4).take n) then ⟨sizeN n, 1, (b.drop 4).take n⟩ else ⟨sizeN n, 2, []⟩ := by
  unfold headI firstL
  cases hh : headLen b with
  | none => exact .inl ⟨rfl, rfl⟩
  | some n =>
    have hq := (headLen_le hh).1
    simp only
    by_cases hs : b.length < sizeN n
    · rw [if_pos hs, if_pos hs]; exact .inl ⟨rfl, rfl⟩
    · rw [if_neg hs, if_neg hs]; exact .inr ⟨n, rfl, hq, by omega, rfl⟩

set_option maxRecDepth 100000 in
set_option maxHeartbeats 1000000 in
theorem R4At_blank (w : World) (v : Value) (b : List UInt8) (M : Nat) (h : Reads w v b M) (hl : b.length ≤ 100000) (h0 : writtenN b = 0) :
    Calls Try.prog 14 #[v] w (RecOut w ⟨b.length, 0, []⟩) := by
  obtain ⟨a, cap, rfl, hcap⟩ := h.shape
  obtain ⟨kV, w0⟩ := rec_start w
  have HW := Lib.hid (R4nothing_any (w.alloc (.cells #[.int .i64 0, .int .i64 0, .int .u8 0, .slice none 0 0] 29)) _ b M (h.keeps kV (by simp)) hl)
  rw [h0] at HW
  generalize b.length = n at *
  clear h h0
  go_enter Try.func14, Try.ntmps14
  go_wp2_with fail
  generalize World.alloc w _ = V at *
  refine HW.out.mono ?_
  rintro e w' ⟨rfl, rfl⟩
  have KV := Lib.hid kV
  have W0 := Lib.hid w0
  clear kV w0
  go_wp2_with (first | (refine wpList_build_at rfl 29 _ rfl _ (built_rec2 _ _) ?_) | (refine wpList_store_row rfl 29 _ _ rfl w.heap.size #[.int .i64 0, .int .i64 n, .int .u8 0, .slice none 0 0] rfl rfl 29 #[.int .i64 0, .int .i64 0, .int .u8 0, .slice none 0 0] W0.out (by rw [szRecord]; rfl) rfl (rec_one _ _ _ _ _ _) ?_))
  have W5 := W0.out.setRow [.int .i64 0, .int .i64 n, .int .u8 0, .slice none 0 0]
  refine bodyPost_ret (results_cell_row Try.results14 _ _ w.heap.size 29 #[.int .i64 0, .int .i64 n, .int .u8 0, .slice none 0 0] (0, 0) _ rfl W5 Try.underlying29 rfl (by rw [szRecord]; rfl)) rfl ?_
  exact RecOut.none ⟨n, 0, []⟩ rfl (KV.out.then (Keeps.setRow (S := [w.heap.size]) _ (by simp) _) (fun x hx => .inr (by simp at hx; omega)))

set_option maxRecDepth 100000 in
set_option maxHeartbeats 1000000 in
theorem R4At_garbage (w : World) (v : Value) (b : List UInt8) (M : Nat) (h : Reads w v b M) (hl : b.length ≤ 100000) (h0 : writtenN b ≠ 0) (hh : headI b = -1) :
    Calls Try.prog 14 #[v] w (RecOut w ⟨min 4 b.length, 3, []⟩) := by
  obtain ⟨m, hm⟩ : ∃ m, m = min 4 b.length := ⟨_, rfl⟩
  rw [← hm]
  obtain ⟨a, cap, rfl, hcap⟩ := h.shape
  obtain ⟨kV, w0⟩ := rec_start w
  have hz : (writtenN b == 0) = false := by simpa using h0
  have HW := Lib.hid (R4nothing_any (w.alloc (.cells #[.int .i64 0, .int .i64 0, .int .u8 0, .slice none 0 0] 29)) _ b M (h.keeps kV (by simp)) hl)
  have HD := Lib.hid (R4head_any (w.alloc (.cells #[.int .i64 0, .int .i64 0, .int .u8 0, .slice none 0 0] 29)) _ b M (h.keeps kV (by simp)) hl)
  rw [hz] at HW
  rw [hh] at HD
  generalize b.length = n at *
  clear h h0 hz hh
  by_cases h4 : n < 4
  · obtain rfl : m = n := by omega
    have h4' : (m : Int) < 4 := by omega
    clear hm
    go_enter Try.func14, Try.ntmps14
    go_wp2_with fail
    generalize World.alloc w _ = V at *
    refine HW.out.mono ?_
    rintro e w' ⟨rfl, rfl⟩
    have KV := Lib.hid kV
    have W0 := Lib.hid w0
    clear kV w0
    go_wp2_with fail
    refine HD.out.mono ?_
    rintro e w1 ⟨rfl, k1⟩
    have W1 := Lib.hid (W0.out.keeps k1 (by simp))
    have K1 := Lib.hid (KV.out.trans k1)
    clear k1 KV W0 HW HD
    go_wp2_with (first | (refine wpList_build_at rfl 29 _ rfl _ (built_rec2 _ _) ?_) | (refine wpList_store_row rfl 29 _ _ rfl w.heap.size #[.int .i64 0, .int .i64 m, .int .u8 3, .slice none 0 0] rfl rfl 29 #[.int .i64 0, .int .i64 0, .int .u8 0, .slice none 0 0] W1.out (by rw [szRecord]; rfl) rfl (rec_one _ _ _ _ _ _) ?_))
    have W5 := W1.out.setRow [.int .i64 0, .int .i64 m, .int .u8 3, .slice none 0 0]
    refine bodyPost_ret (results_cell_row Try.results14 _ _ w.heap.size 29 #[.int .i64 0, .int .i64 m, .int .u8 3, .slice none 0 0] (0, 0) _ rfl W5 Try.underlying29 rfl (by rw [szRecord]; rfl)) rfl ?_
    exact RecOut.none ⟨m, 3, []⟩ rfl (K1.out.then (Keeps.setRow (S := [w.heap.size]) _ (by simp) _) (fun x hx => .inr (by simp at hx; omega)))
  · obtain rfl : m = 4 := by omega
    have h4' : ¬ (n : Int) < 4 := by omega
    clear hm
    go_enter Try.func14, Try.ntmps14
    go_wp2_with fail
    generalize World.alloc w _ = V at *
    refine HW.out.mono ?_
    rintro e w' ⟨rfl, rfl⟩
    have KV := Lib.hid kV
    have W0 := Lib.hid w0
    clear kV w0
    go_wp2_with fail
    refine HD.out.mono ?_
    rintro e w1 ⟨rfl, k1⟩
    have W1 := Lib.hid (W0.out.keeps k1 (by simp))
    have K1 := Lib.hid (KV.out.trans k1)
    clear k1 KV W0 HW HD
    go_wp2_with (first | (refine wpList_build_at rfl 29 _ rfl _ (built_rec2 _ _) ?_) | (refine wpList_store_row rfl 29 _ _ rfl w.heap.size #[.int .i64 0, .int .i64 4, .int .u8 3, .slice none 0 0] rfl rfl 29 #[.int .i64 0, .int .i64 0, .int .u8 0, .slice none 0 0] W1.out (by rw [szRecord]; rfl) rfl (rec_one _ _ _ _ _ _) ?_))
    have W5 := W1.out.setRow [.int .i64 0, .int .i64 4, .int .u8 3, .slice none 0 0]
    refine bodyPost_ret (results_cell_row Try.results14 _ _ w.heap.size 29 #[.int .i64 0, .int .i64 4, .int .u8 3, .slice none 0 0] (0, 0) _ rfl W5 Try.underlying29 rfl (by rw [szRecord]; rfl)) rfl ?_
    exact RecOut.none ⟨4, 3, []⟩ rfl (K1.out.then (Keeps.setRow (S := [w.heap.size]) _ (by simp) _) (fun x hx => .inr (by simp at hx; omega)))

theorem take_same_succ {α : Type} (a b : List α) (k : Nat) (c : α) (ha : a[k]? = some c) (hb : b[k]? = some c) (h : a.take k = b.take k) : a.take (k + 1) = b.take (k + 1) := by
  rw [List.take_add_one, List.take_add_one, ha, hb, h]

set_option maxRecDepth 100000 in
set_option maxHeartbeats 2000000 in
theorem R4At_rec (w : World) (v : Value) (b : List UInt8) (M q : Nat) (h : Reads w v b M) (hl : b.length ≤ 100000) (h0 : writtenN b ≠ 0) (hh : headI b = (q : Int)) (hq : q ≤ 4080) (hs : sizeN q ≤ b.length) :
    Calls Try.prog 14 #[v] w (RecOut w (if b.take (sizeN q) = recB ((b.drop 4).take q) then ⟨sizeN q, 1, (b.drop 4).take q⟩ else ⟨sizeN q, 2, []⟩)) := by
  have hsz : sizeN q = 12 + fillN q := rfl
  have hfq := fillN_ge q
  have hzl : sizeN q ≤ 5000 := by have := fillN_lt q; omega
  obtain ⟨a, cap, rfl, hcap⟩ := h.shape
  obtain ⟨p, c, hcut, hrc⟩ := h.cut 4 (4 + q) (by omega) (by omega)
  have hpl : ((b.drop 4).take (4 + q - 4)).length = q := by simp; omega
  rw [hpl] at hcut hrc
  rw [show 4 + q - 4 = q by omega] at hrc
  have hsl : ∀ w, (Instr.sliceAt 22 (.slice a b.length cap) (some (.int .i64 4)) (some (.int .i64 (4 + (q : Int)))) none).run Try.prog w = .ok (.slice p q c) w := fun w => by
    rw [← hcut, show (4 : Int) + (q : Int) = ((4 + q : Nat) : Int) by omega]
    exact run_cut_lh w a b.length cap 4 (4 + q) (by omega) (by omega)
  have hpay : ((b.drop 4).take q).length = q := by simp; omega
  obtain ⟨kV, w0⟩ := rec_start w
  have hz : (writtenN b == 0) = false := by simpa using h0
  have HW := Lib.hid (R4nothing_any (w.alloc (.cells #[.int .i64 0, .int .i64 0, .int .u8 0, .slice none 0 0] 29)) _ b M (h.keeps kV (by simp)) hl)
  have HD := Lib.hid (R4head_any (w.alloc (.cells #[.int .i64 0, .int .i64 0, .int .u8 0, .slice none 0 0] 29)) _ b M (h.keeps kV (by simp)) hl)
  rw [hz] at HW
  rw [hh] at HD
  have HR := Lib.hid h
  have HRC := Lib.hid hrc
  have HSL := Lib.hid hsl
  have HPL := Lib.hid hpay
  have HRB := Lib.hid (show (recB ((b.drop 4).take q)).length = sizeN q by rw [recB_length, hpay])
  clear hrc hcut hpay hpl hsz hfq h h0 hz hh hsl
  generalize (b.drop 4).take q = pay at *
  obtain ⟨R, hR⟩ : ∃ R, R = (if b.take (sizeN q) = recB pay then (⟨sizeN q, 1, pay⟩ : R4) else ⟨sizeN q, 2, []⟩) := ⟨_, rfl⟩
  have HRR := Lib.hid hR
  rw [← hR]
  clear hR
  obtain ⟨n, hbn⟩ : ∃ n, n = b.length := ⟨_, rfl⟩
  have HBN := Lib.hid hbn
  rw [← hbn] at HSL HR hcap hl HW HD hs ⊢
  obtain ⟨z, hz⟩ : ∃ z, z = sizeN q := ⟨_, rfl⟩
  rw [← hz] at HRR HRB hs hzl
  have HZ := Lib.hid hz
  clear hbn hz
  have hsl := HSL.out
  have hq0 : ¬ (q : Int) < 0 := by omega
  go_enter Try.func14, Try.ntmps14
  go_wp2_with fail
  generalize World.alloc w _ = V at *
  refine HW.out.mono ?_
  rintro e w' ⟨rfl, rfl⟩
  have KV := Lib.hid kV
  have W0 := Lib.hid w0
  clear kV w0
  go_wp2_with fail
  refine HD.out.mono ?_
  rintro e w1 ⟨rfl, k1⟩
  have W1 := Lib.hid (W0.out.keeps k1 (by simp))
  have K1 := Lib.hid (KV.out.trans k1)
  clear k1 KV W0 HW HD
  go_wp2_with fail
  refine (R4Bytes_any _ _ pay M (HRC.out.keeps K1.out (by simp)) (by rw [HPL.out]; exact hq)).mono ?_
  rintro e w2 ⟨v2, rfl, ho2, k2⟩
  rw [HPL.out, ← HZ.out] at ho2
  have W2 := Lib.hid (W1.out.keeps k2 (by simp))
  have K2 := Lib.hid (K1.out.trans k2)
  have s2 : 0 < w2.heap.size := by have := k2.size; have := W1.out.lt; omega
  obtain ⟨pa2, pc2, rfl⟩ := owns_shape2 ho2
  obtain ⟨M2, hr2, _⟩ := owns_reads (l := recB pay) (by rw [HRB.out.symm] at ho2; exact ho2) s2
  rw [HRB.out] at hr2
  have HR2 := Lib.hid hr2
  clear ho2 k2 hr2
  have hn12 : 12 ≤ z := by rw [HZ.out]; unfold sizeN; omega
  go_wp2
  go_loopw [5] (fun x wr => ∃ k : Nat, k ≤ z ∧ x = .int .i64 k ∧ Hid (b.take k = (recB pay).take k) ∧ Keeps [] w2 wr) (fun x _ => z - (intOf x).toNat)
  case atStart => exact ⟨0, Nat.zero_le _, rfl, Lib.hid rfl, Keeps.refl _ _⟩
  case round =>
    obtain ⟨k, hk, rfl, HB, kp⟩ := hrel
    have KP := Lib.hid kp
    by_cases hlt : k < z
    · have hkb : k < b.length := by rw [← HBN.out]; omega
      have hkr : k < (recB pay).length := by rw [HRB.out]; exact hlt
      have hc : b[k]? = some (b[k]) := List.getElem?_eq_getElem hkb
      have hd : (recB pay)[k]? = some ((recB pay)[k]) := List.getElem?_eq_getElem hkr
      obtain ⟨off, cap', hv, _, hcell⟩ := ((show Reads w (.slice a b.length cap) b M by rw [← HBN.out]; exact HR.out).keeps (K2.out.trans kp) (by simp)).at (by intro e; rw [e] at hkb; simp at hkb)
      obtain ⟨rfl, rfl⟩ : a = some ⟨M, off, none⟩ ∧ cap = cap' := by simp at hv; exact hv
      obtain ⟨off2, cap2', hv2, _, hcell2⟩ := ((show Reads w2 (.slice pa2 (recB pay).length pc2) (recB pay) M2 by rw [HRB.out]; exact HR2.out).keeps kp (by simp)).at (by intro e; rw [e] at hkr; simp at hkr)
      obtain ⟨rfl, rfl⟩ : pa2 = some ⟨M2, off2, none⟩ ∧ pc2 = cap2' := by simp at hv2; exact hv2
      have c0 := hcell k _ hc
      have d0 := hcell2 k _ hd
      have HC := Lib.hid hc
      have HDD := Lib.hid hd
      generalize b[k] = c at *
      generalize (recB pay)[k] = d at *
      clear hcell hcell2 hv hv2 hc hd kp
      unfold bv at c0 d0
      have hki : (k : Int) < (n : Int) := by omega
      have hkz : (k : Int) < (z : Int) := by omega
      by_cases hcd : c = d
      · subst hcd
        have e1 := u8_eq c c rfl
        go_wp2
        go_quiet (fail)
        go_wp2
        go_roundw
        case rel => exact ⟨k + 1, by omega, by go_num, Lib.hid (take_same_succ _ _ k _ HC.out HDD.out HB.out), KP.out.trans (Keeps.drewN _ _ _)⟩
        case measure => simp [intOf]; omega
      · have e1 := u8_ne c d hcd
        have hR := HRR.out
        rw [if_neg (by
          intro e
          have := congrArg (fun l => l[k]?) e
          simp only [List.getElem?_take, if_pos hlt, HC.out, HDD.out] at this
          exact hcd (by simpa using this))] at hR
        subst hR
        go_wp2
        go_quiet (fail)
        generalize hX : World.drewN wr _ = X
        have kX : Keeps [] wr X := by rw [← hX]; exact Keeps.drewN _ _ _
        have KX := Lib.hid (KP.out.trans kX)
        have WQ := Lib.hid (W2.out.keeps KX.out (by simp))
        clear hX kX
        go_wp2_with (first | (refine wpList_build_at rfl 29 _ rfl _ (built_rec2 _ _) ?_) | (refine wpList_store_row rfl 29 _ _ rfl w.heap.size #[.int .i64 0, .int .i64 z, .int .u8 2, .slice none 0 0] rfl rfl 29 #[.int .i64 0, .int .i64 0, .int .u8 0, .slice none 0 0] WQ.out (by rw [szRecord]; rfl) rfl (rec_one _ _ _ _ _ _) ?_))
        have W5 := WQ.out.setRow [.int .i64 0, .int .i64 z, .int .u8 2, .slice none 0 0]
        refine bodyPost_ret (results_cell_row Try.results14 _ _ w.heap.size 29 #[.int .i64 0, .int .i64 z, .int .u8 2, .slice none 0 0] (0, 0) _ rfl W5 Try.underlying29 rfl (by rw [szRecord]; rfl)) rfl ?_
        exact RecOut.none ⟨z, 2, []⟩ rfl ((K2.out.trans KX.out).then (Keeps.setRow (S := [w.heap.size]) _ (by simp) _) (fun x hx => .inr (by simp at hx; omega)))
    · obtain rfl : k = z := by omega
      have hR := HRR.out
      rw [if_pos (by rw [HB.out, List.take_of_length_le (by rw [HRB.out]; exact Nat.le_refl _)])] at hR
      subst hR
      have WQ := Lib.hid (W2.out.keeps kp (by simp))
      have HP := Lib.hid (HRC.out.keeps (K2.out.trans (kp.trans (Keeps.alloc [] wr (.cells #[] 5)))) (by simp))
      have HE := Lib.hid (lit_owns wr [] #[] 0 wr.heap.size rfl rfl (Nat.le_refl _) (by decide))
      have ltw := WQ.out.lt
      have HRL := Lib.hid (show ([] : List UInt8).length + pay.length ≤ 1000000 by rw [HPL.out]; simp; omega)
      clear kp
      go_wp2_with (first | (at_builtin; refine wpList_append_reads rfl _ _ rfl wr.heap.size (.slice (some ⟨wr.heap.size, 0, none⟩) 0 0) [] rfl HE.out (.slice p q c) pay M rfl HP.out HRL.out (by simp) ?_; intro v3 w3 hown3 hk3; rw [List.nil_append] at hown3; obtain ⟨pa3, pc3, rfl⟩ := owns_shape2 hown3; have HO3 := Lib.hid hown3; have kA := (Keeps.alloc [] wr (.cells #[] 5)).ownedK HE.out hk3; have W3 := Lib.hid (WQ.out.keeps kA (by simp)); have K3 := Lib.hid (K2.out.trans (KP.out.trans kA)); clear hown3 hk3 kA) | (refine wpList_build_at rfl 29 _ rfl _ (built_rec3 _ _ _ _ _) ?_) | (refine wpList_store_row rfl 29 _ _ rfl w.heap.size #[.int .i64 0, .int .i64 k, .int .u8 1, .slice pa3 pay.length pc3] rfl rfl 29 #[.int .i64 0, .int .i64 0, .int .u8 0, .slice none 0 0] W3.out (by rw [szRecord]; rfl) rfl (rec_one _ _ _ _ _ _) ?_))
      have W5 := W3.out.setRow [.int .i64 0, .int .i64 k, .int .u8 1, .slice pa3 pay.length pc3]
      refine bodyPost_ret (results_cell_row Try.results14 _ _ w.heap.size 29 #[.int .i64 0, .int .i64 k, .int .u8 1, .slice pa3 pay.length pc3] (0, 0) _ rfl W5 Try.underlying29 rfl (by rw [szRecord]; rfl)) rfl ?_
      refine ⟨pa3, pay.length, pc3, rfl, ?_, K3.out.then (Keeps.setRow (S := [w.heap.size]) _ (by simp) _) (fun x hx => .inr (by simp at hx; omega))⟩
      exact World.ownsRow.mono (World.ownsRow.keeps HO3.out (Keeps.setRow (S := [w.heap.size]) _ (by simp) _) (fun g hg => by have := (HO3.out.lt g hg).1; simp; omega)) (by omega)

/-- What the document's At answers, of whatever bytes. -/
theorem R4At_any (w : World) (v : Value) (b : List UInt8) (M : Nat) (h : Reads w v b M) (hl : b.length ≤ 100000) :
    Calls Try.prog 14 #[v] w (RecOut w (atL b)) := by
  by_cases h0 : writtenN b = 0
  · rw [show atL b = ⟨b.length, 0, []⟩ from if_pos h0]
    exact R4At_blank w v b M h hl h0
  · rw [show atL b = firstL b from if_neg h0]
    rcases headI_cases b with ⟨hh, hf⟩ | ⟨n, hh, hn, hs, hf⟩
    · rw [hf]; exact R4At_garbage w v b M h hl h0 hh
    · rw [hf]; exact R4At_rec w v b M n h hl h0 hh hn hs
end Go.Proofs.Ytdcfcljgennipaa
