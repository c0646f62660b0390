/-
  Contracts of the document's own record (lightshipref04): Scan.
-/
import Derived.Test.YtdcfcljgennipaaRfD
import Derived.Test.YtdcfcljgennipaaRecWholeA
namespace Go.Proofs.Ytdcfcljgennipaa
open Go.RowKit

theorem placeK_step (b : List UInt8) (k : Nat) (h : placeK b k < writtenN b) : placeK b k < placeK b (k + 1) ∧ placeK b (k + 1) ≤ b.length := by
  have hne : b.drop (placeK b k) ≠ [] := by intro e; have := congrArg List.length e; have := writtenN_le b; simp at *; omega
  have hz1 := (firstL_size _ hne).1
  have := placeK_succ b k h
  have := placeK_le b (k + 1)
  omega

theorem nothing_drop (b : List UInt8) (p : Nat) : (writtenN (b.drop p) == 0) = decide (writtenN b ≤ p) := by
  by_cases h : writtenN b ≤ p
  · rw [(written_zero _).2 ((blank_drop b p).2 h)]; simp [h]
  · have : writtenN (b.drop p) ≠ 0 := fun e => h ((blank_drop b p).1 ((written_zero _).1 e))
    simp [h, this]

set_option maxRecDepth 100000 in
set_option maxHeartbeats 2000000 in
theorem R4Scan_any (w : World) (v : Value) (b : List UInt8) (M : Nat) (h : Reads w v b M) (hl : b.length ≤ 100000) :
    Calls Try.prog 12 #[v] w fun e w' => ∃ ao cp vs, e = .returned (.tuple #[.slice ao (rowL b).length cp, .int .i64 (endK b)]) ∧ w'.ownsRow w.heap.size 29 4 (.slice ao (rowL b).length cp) (rowL b).length (recsCells (rowL b) vs) ∧ RecsIn w.heap.size w' (rowL b) vs ∧ Keeps [] w w' := by
  obtain ⟨i0, hi, hz0, hz1, hz2⟩ := info_parts infoRecord
  obtain ⟨a, cap, rfl, hcap⟩ := h.shape
  have HCNT := Lib.hid (rowL_count b)
  have HV := Lib.hid h
  obtain ⟨N, hN⟩ : ∃ N, N = b.length := ⟨_, rfl⟩
  have HN := Lib.hid hN
  rw [← hN] at hl ⊢
  have hrc : (rowL b).length ≤ N := by rw [hN]; exact rowL_count b
  clear hN h
  go_enter Try.func12, Try.ntmps12
  go_wp2
  go_loopw [4, 5, 6] (fun l at' _ wr => ∃ (k p : Nat) (ao : Option Addr) (cp : Nat) (vs : List Value), k ≤ (rowL b).length ∧ p ≤ N ∧ at' = .int .i64 p ∧ l = .slice ao k cp ∧ Hid (p = placeK b k) ∧ Hid (wr.ownsRow w.heap.size 29 4 (.slice ao k cp) k (recsCells ((rowL b).take k) vs)) ∧ Hid (RecsIn w.heap.size wr ((rowL b).take k) vs) ∧ Hid (Keeps [] w wr)) (fun _ at' _ _ => N - (intOf at').toNat)
  case atStart => exact ⟨0, 0, none, 0, [], Nat.zero_le _, Nat.zero_le _, rfl, rfl, Lib.hid rfl, Lib.hid ⟨rfl, .inl ⟨rfl, rfl⟩⟩, Lib.hid ⟨rfl, fun i x v hx => by simp at hx⟩, Lib.hid (Keeps.refl _ _)⟩
  case round =>
    obtain ⟨k, p, ao, cp, vs, hk, hpN, rfl, rfl, HP, HO, HR, KP⟩ := hrel
    obtain ⟨q, c, hcut, hrq⟩ := (HV.out.keeps KP.out (by simp)).behind p (by rw [← HN.out]; exact hpN)
    rw [← HN.out] at hcut hrq
    obtain ⟨L, hL⟩ : ∃ L, L = N - p := ⟨_, rfl⟩
    rw [← hL] at hcut hrq
    have HRQ := Lib.hid hrq
    have HNO := Lib.hid (R4nothing_any wr _ (b.drop p) M hrq (by have := HN.out; simp; omega))
    rw [nothing_drop] at HNO
    have hLl : (b.drop p).length = L := by have := HN.out; simp; omega
    have HL := Lib.hid hL
    have hLN : L ≤ N := by omega
    clear hrq hL
    by_cases hlt : p < writtenN b
    · have hd0 : decide (writtenN b ≤ p) = false := by simp; omega
      rw [hd0] at HNO
      have hw := hlt
      rw [HP.out] at hw
      have hx := rowL_get b k hw
      have hst := placeK_step b k hw
      have hnext := placeK_succ b k hw
      have hat := atL_first b p hlt
      rw [← HP.out] at hx hnext hst
      have HA := Lib.hid (R4At_any wr _ (b.drop p) M HRQ.out (by rw [hLl]; omega))
      rw [hat] at HA
      have htake : (rowL b).take (k + 1) = (rowL b).take k ++ [(p, firstL (b.drop p))] := by rw [List.take_add_one, hx]; rfl
      have hklt : k < (rowL b).length := (List.getElem?_eq_some_iff.1 hx).1
      generalize firstL (b.drop p) = r at *
      obtain ⟨z, kd, py⟩ := r
      dsimp only at hnext
      have HT := Lib.hid htake
      have HX := Lib.hid hnext
      have hz0' : 0 < z := by omega
      have hpz : p + z ≤ N := by rw [HN.out]; omega
      have HLT := Lib.hid (fun g hg => HO.out.lt g hg)
      clear hd0 hw hx hst hnext hat htake hlt hLl
      go_wp2_with (go_at_call 46; refine HNO.out.mono ?_; rintro e w' ⟨rfl, rfl⟩)
      refine HA.out.mono ?_
      rintro e w2 ⟨pa, pn, pc, rfl, ho2, k2⟩
      have HO2 := Lib.hid ho2
      have K2 := Lib.hid (KP.out.trans k2)
      have HOR2 := Lib.hid (World.ownsRow.keeps HO.out k2 (by simp))
      have HR2 := Lib.hid (HR.out.keeps k2 (by simp))
      have HR2' := Lib.hid HR2.out
      have HO2' := Lib.hid HO2.out
      have HLT2 := Lib.hid (fun g (hg : (Value.slice ao k cp).ownBlock = some g) => (show w.heap.size ≤ g ∧ g < w2.heap.size from ⟨(HO.out.lt g hg).1, by have := (HO.out.lt g hg).2; have := k2.size; omega⟩))
      have HSZ2 := Lib.hid k2.size
      clear ho2 k2
      dsimp only [recCells] at *
      have WN := Lib.hid (Whole.new w2 29 [.int .i64 0, .int .i64 0, .int .u8 0, .slice none 0 0])
      go_upto_region 5 with (refine wpList_store_row rfl 29 _ _ rfl w2.heap.size #[.int .i64 0, .int .i64 z, .int .u8 (kd.toNat : Int), .slice pa pn pc] rfl rfl 29 #[.int .i64 0, .int .i64 0, .int .u8 0, .slice none 0 0] WN.out (by rw [szRecord]; rfl) rfl (rec_one _ _ _ _ _ _) ?_)
      generalize hX : World.setRow _ _ _ = X
      have W3 : Whole X w2.heap.size 29 [.int .i64 0, .int .i64 z, .int .u8 (kd.toNat : Int), .slice pa pn pc] := by rw [← hX]; exact WN.out.setRow [.int .i64 0, .int .i64 z, .int .u8 (kd.toNat : Int), .slice pa pn pc]
      have k3 : Keeps [] w2 X := by rw [← hX]; exact (Keeps.alloc [] w2 _).then (Keeps.setRow (S := [w2.heap.size]) _ (by simp) _) (fun x hx => .inr (by simp at hx; omega))
      clear hX WN
      have x0 := (W3.cell 0).trans (show _ = some (Value.int .i64 0) from rfl)
      have fz := W3.frozen 0
      have HW3 := Lib.hid W3
      have K3 := Lib.hid (K2.out.trans k3)
      have HSZ3 := Lib.hid k3.size
      have HOR3 := Lib.hid (World.ownsRow.keeps HOR2.out k3 (by simp))
      have HR3 := Lib.hid (HR2.out.keeps k3 (by simp))
      have HO3 := Lib.hid (World.ownsRow.keeps HO2.out k3 (by simp))
      clear W3 k3 HOR2 HR2 HO2
      go_upto_region 6 with (fail)
      have W4 := HW3.out.set 0 (.int .i64 p)
      have k4 : Keeps [w2.heap.size] X (X.setCell ⟨w2.heap.size, 0, none⟩ (.int .i64 p)) := Keeps.setCell _ (by simp) _
      generalize World.setCell X _ _ = Y at *
      have HW4 := Lib.hid (show Whole Y w2.heap.size 29 [.int .i64 p, .int .i64 z, .int .u8 (kd.toNat : Int), .slice pa pn pc] from W4)
      have HSZ4 := Lib.hid k4.size
      have K4 := Lib.hid (K3.out.then k4 (fun x hx => .inr (by have := K2.out.size; simp at hx; omega)))
      have HOR4 := Lib.hid (World.ownsRow.keeps HOR3.out k4 (fun g hg => by have := (HLT2.out g hg).2; simp; omega))
      have HR4 := Lib.hid (show RecsIn w.heap.size Y ((rowL b).take k) vs from ⟨HR3.out.len, fun i x v hx hv => by
        have := HR3.out.pay i x v hx hv
        have h2 := HR2'.out.pay i x v hx hv
        exact World.ownsRow.keeps this k4 (fun g hg => by have := (h2.lt g hg).2; simp; omega)⟩)
      have HO4 := Lib.hid (World.ownsRow.keeps HO3.out k4 (fun g hg => by have := (HO2'.out.lt g hg).2; simp; omega))
      clear W4 k4 x0 fz HW3 HOR3 HR3 HO3
      have sY : w2.heap.size < Y.heap.size := HW4.out.lt
      go_upto_region 7 with (first | (refine wpList_load_row rfl 29 _ rfl w2.heap.size rfl 29 #[.int .i64 p, .int .i64 z, .int .u8 (kd.toNat : Int), .slice pa pn pc] (0, 0) _ HW4.out Try.underlying29 rfl (by rw [szRecord]; rfl) ?_) | (at_builtin; refine wpList_append_own _ rfl _ _ 25 rfl w.heap.size 29 i0 (.agg #[.int .i64 0, .int .i64 0, .int .u8 0, .slice none 0 0]) 4 48 Try.underlying25 hi hz0 hz1 hz2 rfl (by decide) (.slice ao k cp) k (recsCells ((rowL b).take k) vs) rfl (HOR4.out.alloc _) ⟨Y.heap.size, 0, none⟩ 1 1 [.int .i64 p, .int .i64 z, .int .u8 (kd.toNat : Int), .slice pa pn pc] rfl rfl ?c1 ?c2 ?c3 ?c4 ?c5 ?_))
      case c1 =>
        intro i u hu
        rw [Addr.add_off, Nat.zero_add, cell_alloc_new]
        simpa using hu
      case c2 => intro u hu; simp at hu; rcases hu with rfl | rfl | rfl | rfl <;> rfl
      case c3 => unfold maxLen; omega
      case c4 => omega
      case c5 => have := K4.out.size; simp; omega
      intro v3 w3 hown3 hg3 _
      obtain ⟨ao3, cp3, rfl⟩ := owns_shape2 hown3
      have kA : Keeps [] Y (Y.alloc (.cells #[Value.int .i64 p, Value.int .i64 z, Value.int .u8 (kd.toNat : Int), Value.slice pa pn pc] 29)) := Keeps.alloc [] _ _
      have k3 := Keeps.grown (S := (Value.slice ao k cp).ownBlock.toList) hg3 (fun j hj => .inl (by rw [hj]; simp))
      have k13 : Keeps (Value.slice ao k cp).ownBlock.toList Y w3 := (kA.mono (by simp)).trans k3
      have hng : w2.heap.size ∉ (Value.slice ao k cp).ownBlock.toList := fun hm => by
        have := (HLT2.out w2.heap.size (by simpa using hm)).2
        omega
      have W5 := HW4.out.keeps k13 hng
      have x1 := (W5.cell 1).trans (show _ = some (Value.int .i64 (z : Int)) from rfl)
      have HW5 := Lib.hid W5
      have hS : ∀ x ∈ (Value.slice ao k cp).ownBlock.toList, x < w.heap.size ∨ ∃ cur T', Y.heap[x]? = some (.cells cur T' (0, 0)) ∧ T' ≠ 5 := by
        intro x hx
        obtain ⟨cur, hcur⟩ := owns_heap HOR4.out (g := x) (by simpa using hx)
        exact .inr ⟨cur, _, hcur, by decide⟩
      have hS2 : ∀ x ∈ (Value.slice ao k cp).ownBlock.toList, x < wr.heap.size ∨ ∃ cur T', Y.heap[x]? = some (.cells cur T' (0, 0)) ∧ T' ≠ 5 := by
        intro x hx
        obtain ⟨cur, hcur⟩ := owns_heap HOR4.out (g := x) (by simpa using hx)
        exact .inr ⟨cur, _, hcur, by decide⟩
      have HOR5 := Lib.hid (show w3.ownsRow w.heap.size 29 4 (.slice ao3 (k + 1) cp3) (k + 1) (recsCells ((rowL b).take (k + 1)) (vs ++ [.slice pa pn pc])) by
        rw [HT.out, recsCells_snoc _ _ _ _ HR4.out.len]
        exact hown3)
      have HR5 := Lib.hid (show RecsIn w.heap.size w3 ((rowL b).take (k + 1)) (vs ++ [.slice pa pn pc]) by
        rw [HT.out]
        exact RecsIn.snoc ⟨HR4.out.len, fun i x v hx hv => owns_keepsT (HR4.out.pay i x v hx hv) k13 hS⟩ _ _ (World.ownsRow.mono (owns_keepsT HO4.out k13 hS2) KP.out.size))
      have K5 := Lib.hid (K4.out.then k13 (fun x hx => .inr (HLT2.out x (by simpa using hx)).1))
      clear hown3 hg3 kA k3 k13 W5 hS hS2
      go_wp2
      go_roundw
      case rel => exact ⟨k + 1, p + z, ao3, cp3, vs ++ [.slice pa pn pc], by omega, by omega, by go_num, rfl, Lib.hid HX.out.symm, HOR5, HR5, K5⟩
      case measure => simp [intOf]; omega
    · have hd1 : decide (writtenN b ≤ p) = true := by simp; omega
      rw [hd1] at HNO
      have hkend : (rowL b).length ≤ k := rowL_end b k (by rw [← HP.out]; exact hlt)
      obtain rfl : k = (rowL b).length := by omega
      have hen : endK b = p := by unfold endK; rw [← HP.out]
      have HEN := Lib.hid hen
      rw [List.take_length] at HO HR
      clear hd1 hkend hlt hen HP hrc hLl HCNT
      go_wp2_with (go_at_call 46; refine HNO.out.mono ?_; rintro e w' ⟨rfl, rfl⟩)
      go_ret2
      exact ⟨ao, cp, vs, by rw [HEN.out]; rfl, HO.out, HR.out, KP.out⟩
end Go.Proofs.Ytdcfcljgennipaa
