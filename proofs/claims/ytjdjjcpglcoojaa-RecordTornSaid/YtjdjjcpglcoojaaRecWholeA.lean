/-
  RecordWhole, walked.
-/
import Derived.Test.YtjdjjcpglcoojaaRecK
import Derived.Test.YtjdjjcpglcoojaaArgs
namespace Go.Proofs.Ytjdjjcpglcoojaa
open Go.RowKit

theorem fld_size (t z k : Int) (a : Option Addr) (n c : Nat) (w : World) : (Instr.field 29 (.agg #[.int .i64 t, .int .i64 z, .int .u8 k, .slice a n c]) 1).run Try.prog w = .ok (.int .i64 z) w := by kernel_rfl

theorem written_zero (b : List UInt8) : writtenN b = 0 ↔ blank b := by
  have := blank_drop b 0
  rw [List.drop_zero] at this
  rw [this]; omega

theorem atL_first (b : List UInt8) (p : Nat) (h : p < writtenN b) : atL (b.drop p) = firstL (b.drop p) := by
  unfold atL
  rw [if_neg]
  intro h0
  have := (blank_drop b p).1 ((written_zero _).1 h0)
  omega

theorem atL_blank (b : List UInt8) (p : Nat) (h : ¬ p < writtenN b) : atL (b.drop p) = ⟨b.length - p, 0, []⟩ := by
  unfold atL
  rw [if_pos ((written_zero _).2 ((blank_drop b p).2 (by omega)))]
  simp

theorem row_at (b : List UInt8) (k : Nat) (hk : k < (rowL b).length) : placeK b k < writtenN b := by
  by_cases h : placeK b k < writtenN b
  · exact h
  · have := rowL_end b k h; omega

/-- The bytes behind some, as the walk has them. -/
theorem Reads.behind {w : World} {a : Option Addr} {cap : Nat} {l : List UInt8} {M : Nat} (h : Reads w (.slice a l.length cap) l M) (n : Nat) (h2 : n ≤ l.length) :
    ∃ p c, (∀ w, (Instr.sliceAt 22 (.slice a l.length cap) (some (.int .i64 n)) none none).run Try.prog w = .ok (.slice p (l.length - n) c) w) ∧ Reads w (.slice p (l.length - n) c) (l.drop n) M := by
  obtain ⟨p, c, h1, h2⟩ := h.tail n h2
  have hl : (l.drop n).length = l.length - n := by simp
  rw [hl] at h1 h2
  exact ⟨p, c, h1, h2⟩

set_option maxRecDepth 100000 in
set_option maxHeartbeats 1000000 in
theorem RecordWhole_long (w : World) (a : Option Addr) (n cap : Nat) (hn : 1000 < n) :
    Calls Try.prog 6 #[.slice a n cap] w fun e w' => e = .returned (.bool true) ∧ Keeps [] w w' := by
  go_enter Try.func6, Try.ntmps6
  go_wp2_with (go_at_call 9; refine (awake4_any _).mono ?_; rintro e w1 ⟨rfl, k1⟩; have K1 := Lib.hid k1; clear k1)
  go_ret
  exact ⟨rfl, K1.out⟩

set_option maxRecDepth 100000 in
set_option maxHeartbeats 1000000 in
theorem RecordWhole_short (w : World) (v : Value) (b : List UInt8) (M : Nat) (h : Reads w v b M) (hl : b.length ≤ 1000) (hM : b ≠ [] → M < w.heap.size) :
    Calls Try.prog 6 #[v] w fun e w' => e = .returned (.bool true) ∧ Keeps [] w w' := by
  obtain ⟨a, cap, rfl, hcap⟩ := h.shape
  obtain ⟨N, hN⟩ : ∃ N, N = b.length := ⟨_, rfl⟩
  have HN := Lib.hid hN
  have HV := Lib.hid h
  have HSC := Lib.hid (Scan_any w _ b M h (by omega) hM)
  rw [← hN] at HV HSC hl hcap ⊢
  clear hN h
  go_enter Try.func6, Try.ntmps6
  go_wp2_with fail
  refine HSC.out.mono ?_
  rintro e w1 ⟨ao, cp, vs, rfl, ho, hrs, k1, hwl⟩
  have HRA := Lib.hid (RecsAt.ofScan ho hrs (by omega))
  have K1 := Lib.hid k1
  have hM1 : b ≠ [] → M < w1.heap.size := fun hb => by have := k1.size; have := hM hb; omega
  have hcnt := rowL_count b
  rw [← HN.out] at hcnt
  obtain ⟨n, hn⟩ : ∃ n, n = (rowL b).length := ⟨_, rfl⟩
  have HNN := Lib.hid hn
  rw [← hn] at hcnt HRA ⊢
  clear ho hrs k1 hn HSC vs
  go_wp2
  go_loopw [3, 16] (fun s i wr => ∃ k : Nat, k ≤ n ∧ i = .int .i64 k ∧ s = .int .i64 (placeK b k) ∧ Keeps [] w1 wr) (fun _ i _ => n - (intOf i).toNat)
  case atStart => exact ⟨0, Nat.zero_le _, rfl, rfl, Keeps.refl _ _⟩
  case round =>
    obtain ⟨k, hk, rfl, rfl, kp⟩ := hrel
    by_cases hlt : k < n
    · have hw := row_at b k (by rw [← HNN.out]; exact hlt)
      have hx := rowL_get b k hw
      have hnext := placeK_succ b k hw
      have hple := placeK_le b (k + 1)
      have hat := atL_first b (placeK b k) hw
      have hkd := firstL_kind (b.drop (placeK b k))
      have hpy := firstL_pay (b.drop (placeK b k))
      have hne : b.drop (placeK b k) ≠ [] := by intro e; have := congrArg List.length e; have := writtenN_le b; simp at *; omega
      have hz1 := (firstL_size _ hne).1
      obtain ⟨ao', cap', hv', _, hcells⟩ := HRA.out
      obtain ⟨g, pv, Mp, hao, hg, c0, c1, c2, c3, hrp, hMp⟩ := hcells k _ hx
      obtain ⟨rfl, rfl⟩ : ao = ao' ∧ cp = cap' := by simp at hv'; exact ⟨hv'.1, hv'.2.2⟩
      subst hao
      obtain ⟨q, cq, hcut, hrq⟩ := (show Reads w1 (.slice a b.length cap) b M by rw [← HN.out]; exact HV.out.keeps K1.out (by simp)).behind (placeK b k) (by omega)
      rw [← HN.out] at hcut hrq hple
      rw [hnext] at hple
      obtain ⟨p, hp⟩ : ∃ p, p = placeK b k := ⟨_, rfl⟩
      rw [← hp] at hx hnext hat hkd hpy hz1 c0 c1 c2 hrp hcut hrq hple ⊢
      have HA := Lib.hid (fun w' (hk' : Keeps [] w1 w') => At_any w' _ (b.drop p) M (hrq.keeps hk' (by simp)) (by have := HN.out; simp; omega))
      rw [hat] at HA
      generalize hr : firstL (b.drop p) = r at *
      obtain ⟨z, kd, py⟩ := r
      dsimp only at hnext hkd hpy hz1 c0 c1 c2 hrp hple
      have c0 := kp.cell c0 (by simp)
      have c1 := kp.cell c1 (by simp)
      have c2 := kp.cell c2 (by simp)
      have c3 := kp.cell c3 (by simp)
      obtain ⟨pa, pc, rfl, _⟩ := hrp.shape
      have HRP := Lib.hid hrp
      have HNX := Lib.hid hnext
      have KP := Lib.hid kp
      have d1 : decide ((z : Int) < 1) = false := by simp; omega
      have d2 : decide ((N : Int) < (p : Int) + (z : Int)) = false := by simp; omega
      have d4 : (((kd.toNat : Int) == 0) : Bool) = false := by rcases hkd with h | h | h <;> rw [h] <;> rfl
      have d5 : decide (3 < (kd.toNat : Int)) = false := by rcases hkd with h | h | h <;> rw [h] <;> rfl
      have hp1 : p ≤ 1000 := by omega
      have hz2 : z ≤ 1000 := by omega
      clear hx hnext hat hr hrp hrq kp hw hne hv' hcells hp
      have d7 : (((kd.toNat : Int) != 1) : Bool) = true → py.length = 0 := fun h => by
        have hk1 : kd ≠ 1 := by intro e; rw [e] at h; cases h
        rw [hpy hk1]; rfl
      have d8 : decide ((0 : Int) < ((0 : Nat) : Int)) = false := rfl
      have HMP : Mp < wr.heap.size := by have := KP.out.size; omega
      clear hkd hpy
      obtain ⟨ln, hln⟩ : ∃ ln, ln = py.length := ⟨_, rfl⟩
      have HLN := Lib.hid hln
      rw [← hln] at c3 d7 HRP
      clear hln
      cases hk1 : (((kd.toNat : Int) != 1) : Bool)
      · clear d7
        go_wp2_with fail
        refine (HA.out _ (KP.out.trans (Keeps.alloc [] _ _))).mono ?_
        rintro e w2 ⟨pa2, pn2, pc2, rfl, ho2, k2⟩
        dsimp only [recCells] at *
        have k12 := (KP.out.trans (Keeps.alloc [] _ _)).trans k2
        obtain ⟨M2, r2, _⟩ := owns_reads ho2 (by have := k12.size; omega)
        have HI := Lib.hid (fun (U : World) (hU : Keeps [] w2 U) => Is_any U _ _ py py M2 Mp (r2.keeps hU (by simp)) (HRP.out.keeps (k12.trans hU) (by simp)))
        have K12 := Lib.hid k12
        have W5 := Lib.hid ((Whole.new wr 29 [.int .i64 p, .int .i64 z, .int .u8 (kd.toNat : Int), .slice pa ln pc]).keeps k2 (by simp))
        have e0 := (W5.out.cell 0).trans (show _ = some (Value.int .i64 (p : Int)) from rfl)
        have e1 := (W5.out.cell 1).trans (show _ = some (Value.int .i64 (z : Int)) from rfl)
        have e2 := (W5.out.cell 2).trans (show _ = some (Value.int .u8 (kd.toNat : Int)) from rfl)
        have e3 := (W5.out.cell 3).trans (show _ = some (Value.slice pa ln pc) from rfl)
        have ls := W5.out.lt
        clear ho2 k2 k12 r2
        go_wp2_with fail
        refine (HI.out _ (Keeps.alloc [] _ _)).mono ?_
        rintro e w' ⟨rfl, rfl⟩
        rw [beq_self_eq_true]
        go_wp2
        go_roundw
        case rel => exact ⟨k + 1, by omega, by go_num, by rw [HNX.out]; go_num, K12.out.trans (Keeps.alloc [] _ _)⟩
        case measure => simp [intOf]; omega
      · obtain rfl := d7 hk1
        go_wp2_with fail
        refine (HA.out _ (KP.out.trans (Keeps.alloc [] _ _))).mono ?_
        rintro e w2 ⟨pa2, pn2, pc2, rfl, ho2, k2⟩
        dsimp only [recCells] at *
        have k12 := (KP.out.trans (Keeps.alloc [] _ _)).trans k2
        obtain ⟨M2, r2, _⟩ := owns_reads ho2 (by have := k12.size; omega)
        have HI := Lib.hid (fun (U : World) (hU : Keeps [] w2 U) => Is_any U _ _ py py M2 Mp (r2.keeps hU (by simp)) (HRP.out.keeps (k12.trans hU) (by simp)))
        have K12 := Lib.hid k12
        have W5 := Lib.hid ((Whole.new wr 29 [.int .i64 p, .int .i64 z, .int .u8 (kd.toNat : Int), .slice pa 0 pc]).keeps k2 (by simp))
        have e0 := (W5.out.cell 0).trans (show _ = some (Value.int .i64 (p : Int)) from rfl)
        have e1 := (W5.out.cell 1).trans (show _ = some (Value.int .i64 (z : Int)) from rfl)
        have e2 := (W5.out.cell 2).trans (show _ = some (Value.int .u8 (kd.toNat : Int)) from rfl)
        have e3 := (W5.out.cell 3).trans (show _ = some (Value.slice pa 0 pc) from rfl)
        have ls := W5.out.lt
        clear ho2 k2 k12 r2
        go_wp2_with fail
        refine (HI.out _ (Keeps.alloc [] _ _)).mono ?_
        rintro e w' ⟨rfl, rfl⟩
        rw [beq_self_eq_true]
        go_wp2
        go_roundw
        case rel => exact ⟨k + 1, by omega, by go_num, by rw [HNX.out]; go_num, K12.out.trans (Keeps.alloc [] _ _)⟩
        case measure => simp [intOf]; omega
    · have hkn : k = n := by omega
      subst hkn
      have hend : ¬ placeK b k < writtenN b := fun h => by
        have := (List.getElem?_eq_some_iff.1 (rowL_get b k h)).1
        rw [← HNN.out] at this; omega
      have hat := atL_blank b _ hend
      have hbl := (blank_drop b _).2 (show writtenN b ≤ placeK b k by omega)
      have hple := placeK_le b k
      have hek : endK b = placeK b k := by unfold endK; rw [← HNN.out]
      have HEND := Lib.hid (fun w' (hk' : Keeps [] w1 w') => recEnd_any w' _ b M ((show Reads w1 (.slice a b.length cap) b M by rw [← HN.out]; exact HV.out.keeps K1.out (by simp)).keeps hk' (by simp)) (by have := HN.out; omega) (fun hb => by have := hk'.size; have := hM1 hb; omega))
      obtain ⟨q, cq, hcut, hrq⟩ := (show Reads w1 (.slice a b.length cap) b M by rw [← HN.out]; exact HV.out.keeps K1.out (by simp)).behind (placeK b k) hple
      rw [hek] at HEND
      rw [← HN.out] at hcut hrq hple HEND
      have HA := Lib.hid (fun w' (hk' : Keeps [] w1 w') => At_any w' _ (b.drop (placeK b k)) M (hrq.keeps hk' (by simp)) (by have := HN.out; simp; omega))
      rw [hat, ← HN.out] at HA
      obtain ⟨p, hp⟩ : ∃ p, p = placeK b k := ⟨_, rfl⟩
      rw [← hp] at hcut hrq hple HEND HA hbl ⊢
      have hdl : (b.drop p).length = N - p := by rw [HN.out]; simp
      have HBL := Lib.hid hbl
      have HDL := Lib.hid hdl
      have HRQ := Lib.hid hrq
      have KP := Lib.hid kp
      have hp1 : p ≤ 1000 := by omega
      have hsz := fld_size
      clear hend hat hbl hek hp hdl hrq kp
      go_wp2_with fail
      obtain ⟨L, hL⟩ : ∃ L, L = N - p := ⟨_, rfl⟩
      rw [← hL] at hcut HRQ HDL HA ⊢
      have hsub : (N : Int) - (p : Int) = (L : Int) := by omega
      have hL1 : L ≤ 1000 := by omega
      have HLN := Lib.hid hL
      clear hL
      go_loopw [8, 98] (fun _ i wq => ∃ j : Nat, j ≤ L ∧ i = .int .i64 j ∧ Keeps [] w1 wq) (fun _ i _ => L - (intOf i).toNat)
      case atStart => exact ⟨0, Nat.zero_le _, rfl, KP.out⟩
      case round =>
        obtain ⟨j, hj, rfl, kq⟩ := hrel
        have KP := Lib.hid kq
        clear kq
        by_cases hjl : j < L
        · have hjb : j < (b.drop p).length := by rw [HDL.out]; exact hjl
          have hx255 := HBL.out _ (List.getElem_mem hjb)
          have hx : (b.drop p)[j]? = some 255 := by rw [List.getElem?_eq_getElem hjb, hx255]
          obtain ⟨off, cap', hv, _, hcell⟩ := (show Reads w1 (.slice q L cq) (b.drop p) M from HRQ.out).at (by intro e; rw [e] at hjb; simp at hjb)
          obtain ⟨hq, rfl⟩ : q = some ⟨M, off, none⟩ ∧ cq = cap' := by simp [HDL.out] at hv; exact hv
          subst hq
          have hc := (KP.out.cell (hcell j 255 hx) (by simp)).trans (show some (bv 255) = some (Value.int .u8 255) from rfl)
          clear hx hx255 hjb hcell hv
          go_wp2
          go_roundw
          case rel => exact ⟨j + 1, by omega, by go_num, KP.out⟩
          case measure => simp [intOf]; omega
        · obtain rfl : j = L := by omega
          clear hjl hj
          have KP' := Lib.hid KP.out
          by_cases hpN : p = N
          · subst hpN
            go_wp2_with fail
            refine (HEND.out _ KP'.out).mono ?_
            rintro e w3 ⟨rfl, k3⟩
            have K3 := Lib.hid ((K1.out.trans KP'.out).trans k3)
            clear k3
            go_wp2_with (go_at_call 9; refine (awake4_any _).mono ?_; rintro e w4 ⟨rfl, k4⟩; have K4 := Lib.hid k4; clear k4)
            go_ret
            exact ⟨rfl, K3.out.trans K4.out⟩
          · have hne : (((p : Int) == (N : Int)) : Bool) = false := by simp; omega
            have hne2 : ((p == N) : Bool) = false := by simpa using hpN
            have hneI : ¬ (p : Int) = (N : Int) := by omega
            go_wp2_with fail
            refine (HEND.out _ KP'.out).mono ?_
            rintro e w3 ⟨rfl, k3⟩
            have k3' := KP'.out.trans k3
            have K3 := Lib.hid k3'
            clear k3 k3'
            go_wp2_with fail
            refine (HA.out _ K3.out).mono ?_
            rintro e w4 ⟨pa, pn, pc, rfl, _, k4⟩
            dsimp only [recCells]
            have K4 := Lib.hid ((K1.out.trans K3.out).trans k4)
            clear k4
            go_wp2_with (go_at_call 9; refine (awake4_any _).mono ?_; rintro e w5 ⟨rfl, k5⟩; have K5 := Lib.hid k5; clear k5)
            go_ret
            exact ⟨rfl, K4.out.trans K5.out⟩

theorem RecordWhole_any (w : World) (v : Value) (b : List UInt8) (M : Nat) (h : Reads w v b M) (hM : b ≠ [] → M < w.heap.size) :
    Calls Try.prog 6 #[v] w fun e w' => e = .returned (.bool true) ∧ Keeps [] w w' := by
  by_cases hl : 1000 < b.length
  · obtain ⟨a, cap, rfl, _⟩ := h.shape
    exact RecordWhole_long w a b.length cap hl
  · exact RecordWhole_short w v b M h (by omega) hM
end Go.Proofs.Ytjdjjcpglcoojaa
