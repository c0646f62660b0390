/-
  RecordRow, walked.
-/
import Derived.Test.YtjdjjcpglcoojaaRecP
namespace Go.Proofs.Ytjdjjcpglcoojaa
open Go.RowKit

theorem Wrote.row {s : FS} {ps : List (List UInt8)} (h : Wrote s ps) (hp : ∀ p ∈ ps, p.length ≤ 200) :
    rowL s.bs = entries 0 ps ∧ endK s.bs = sizes ps ∧ atL (s.bs.drop (sizes ps)) = ⟨2048 - sizes ps, 0, []⟩ ∧ sizes ps ≤ 2048 := by
  obtain ⟨t, hb, ht⟩ := h.bytes
  have hp2 : ∀ p ∈ ps, p.length ≤ 4080 := fun p hq => by have := hp p hq; omega
  have hl := recsL_length ps
  have hd : s.bs.drop (sizes ps) = t := by
    rw [hb, List.drop_append_of_le_length (by omega), List.drop_of_length_le (by omega), List.nil_append]
  have hlen : sizes ps ≤ 2048 := by
    have := congrArg List.length hb
    rw [h.len, List.length_append, hl] at this; omega
  refine ⟨rowL_recs _ t ht ps hb hp2, endK_recs _ t ht ps hb hp2, ?_, hlen⟩
  have := atL_blank s.bs (sizes ps) (by have := (blank_drop s.bs (sizes ps)).1 (by rw [hd]; exact ht); omega)
  rw [this, h.len]

set_option maxRecDepth 100000 in
set_option maxHeartbeats 1000000 in
theorem RecordRow_at (w : World) (a : Option Addr) (c B o : Nat) (ls : List (List UInt8)) (ha : ls ≠ [] → a = some ⟨B, o, none⟩) (hp : PartsAt w B o ls) (hm : ls.length ≤ maxLen) (hc : ls.length ≤ c) :
    Calls Try.prog 5 #[.slice a ls.length c] w fun e w' => e = .returned (.bool true) ∧ Keeps [] w w' := by
  have HWT := Lib.hid (written4_any w a c B o ls ha hp hm hc)
  unfold maxLen at hm
  obtain ⟨n, hn⟩ : ∃ n, n = ls.length := ⟨_, rfl⟩
  obtain ⟨m, hmm⟩ : ∃ m, m = min 8 n := ⟨_, rfl⟩
  have hmin := fun w ts t => run_min2 w ts t (n : Int) 8 m (by omega)
  have HN := Lib.hid hn
  have HA := Lib.hid ha
  have HP := Lib.hid hp
  have hcl := cutP_length ls
  have HSH := Lib.hid (cutP_short ls)
  have hm8 : m ≤ 8 := by omega
  have hmn : m ≤ n := by omega
  rw [← hn] at hm hc hcl HWT ⊢
  have HCL := Lib.hid (show (cutP ls).length = m by rw [hcl, hmm])
  have hfld := fld_kind
  obtain ⟨q, hq⟩ : ∃ q, q = sizes (cutP ls) := ⟨_, rfl⟩
  rw [← hq] at HWT
  have HQ := Lib.hid hq
  clear hn hmm ha hp hcl hq
  go_enter Try.func5, Try.ntmps5
  go_wp2_with fail
  refine HWT.out.mono ?_
  rintro e w1 ⟨F, Bb, Wb, M, s, rfl, hF, hWr, k1, _, _, _⟩
  obtain ⟨hrow, hend, hat, hq2⟩ := hWr.row HSH.out
  have HF := Lib.hid hF
  have K1 := Lib.hid k1
  have hlen := hWr.len
  have hdn := hWr.down
  have HALL := Lib.hid (all4_any w1 hF hdn hlen)
  rw [← HQ.out] at hend hat hq2
  have HROW := Lib.hid hrow
  have HEND := Lib.hid hend
  have HAT := Lib.hid hat
  generalize s.bs = bs at *
  have HLEN := Lib.hid hlen
  clear hF hWr k1 hrow hend hat hlen hdn HWT
  go_wp2_with fail
  refine HALL.out.mono ?_
  rintro e w2 ⟨b, cb, rfl, hb2, hr2, k2⟩
  have hrd := hr2.reads
  rw [HLEN.out] at hrd
  have hb2l := hr2.lt
  have HR2 := Lib.hid hrd
  have K2 := Lib.hid (K1.out.trans k2)
  clear hr2 k2 hrd HALL HF
  generalize (some (⟨b, 0, none⟩ : Addr)) = ab at *
  go_wp2_with fail
  refine (Scan_any w2 _ bs b HR2.out (by rw [HLEN.out]; decide) (fun _ => hb2l)).mono ?_
  rintro e w3 ⟨ao, cp, vs, rfl, ho, hrs, k3, hwl⟩
  have HRA := Lib.hid (RecsAt.ofScan ho hrs (by omega))
  have hrl : (rowL bs).length = m := by rw [HROW.out, entries_length, HCL.out]
  rw [hrl] at HRA
  rw [hrl]
  rw [HROW.out] at HRA
  have HR3 := Lib.hid (HR2.out.keeps k3 (by simp))
  have K3 := Lib.hid (K2.out.trans k3)
  have hs3 := k3.size
  clear ho hrs k3 HR2 hrl vs
  have HE := Lib.hid (recEnd_any w3 _ bs b HR3.out (by rw [HLEN.out]; decide) (fun _ => by omega))
  rw [HEND.out] at HE
  go_wp2_with fail
  refine HE.out.mono ?_
  rintro e w4 ⟨rfl, k4⟩
  have HR4 := Lib.hid (HR3.out.keeps k4 (by simp))
  have HRA4 := Lib.hid (HRA.out.keeps k4 (by simp))
  have K4 := Lib.hid (K3.out.trans k4)
  have hs4 := k4.size
  clear k4 HR3 HRA HE
  go_wp2
  go_loopw [7, 38] (fun av i wr => ∃ k : Nat, k ≤ m ∧ i = .int .i64 k ∧ av = .int .i64 (sizes ((cutP ls).take k)) ∧ Keeps [] w4 wr) (fun _ i _ => m - (intOf i).toNat)
  case atStart => exact ⟨0, Nat.zero_le _, rfl, rfl, Keeps.refl _ _⟩
  case round =>
    obtain ⟨k, hk, rfl, rfl, kp⟩ := hrel
    have KP := Lib.hid kp
    clear kp
    by_cases hlt : k < m
    · obtain ⟨l, hl⟩ : ∃ l, ls[k]? = some l := ⟨_, List.getElem?_eq_getElem (by have := HN.out; omega)⟩
      obtain ⟨pp, cc, Mp, hcell, hrd, hml, hMl⟩ := HP.out k l hl
      have hne : ls ≠ [] := by intro e; rw [e] at hl; simp at hl
      have hae := HA.out hne
      have hcut := cutP_get ls k l (by omega) hl
      have hx := entries_get 0 (cutP ls) k (l.take 200) hcut
      rw [Nat.zero_add] at hx
      have htk : (cutP ls).take (k + 1) = (cutP ls).take k ++ [l.take 200] := by rw [List.take_add_one, hcut]; rfl
      have hss := sizes_snoc ((cutP ls).take k) (l.take 200)
      rw [← htk] at hss
      have hsz : sizes ((cutP ls).take k) ≤ 215 * k := by
        have := sizes_le ((cutP ls).take k) (fun p hp => HSH.out p (List.mem_of_mem_take hp))
        rw [List.length_take, HCL.out, Nat.min_eq_left hk] at this
        exact this
      obtain ⟨ao', cap', hv', _, hcells⟩ := HRA4.out
      obtain ⟨g, pv, Mq, hao, hg, c0, c1, c2, c3, hrp, hMq⟩ := hcells k _ hx
      obtain ⟨rfl, rfl⟩ : ao = ao' ∧ cp = cap' := by simp at hv'; exact ⟨hv'.1, hv'.2.2⟩
      subst hao hae
      dsimp only at c0 c1 c2 hrp
      obtain ⟨_, hlcc⟩ := hrd.len
      obtain ⟨m2, hm2⟩ : ∃ m2, m2 = (l.take 200).length := ⟨_, rfl⟩
      have hm2b : m2 = min 200 l.length := by rw [hm2]; simp
      have hrf := hrd.first m2 (by omega)
      rw [show l.take m2 = l.take 200 by rw [hm2b, List.take_eq_take_iff]; omega] at hrf
      obtain ⟨z, hz⟩ : ∃ z, z = sizeN m2 := ⟨_, rfl⟩
      have hz4 := sizeN_mod m2
      have hzb : z ≤ 300 := by have := fillN_lt m2; rw [hz]; unfold sizeN; omega
      rw [← hm2, ← hz] at c1 hss
      rw [← hz] at hz4
      have e4 : (z : Int) % 4 = 0 := by omega
      have e5 : (z : Int).tmod 4 = 0 := by rw [Int.tmod_eq_emod_of_nonneg (by omega)]; exact e4
      have hmin2 := fun w ts t => run_min2 w ts t (l.length : Int) 200 m2 (by omega)
      have hcutB := fun w => run_firstB w pp l.length cc m2 (by omega)
      have HS := Lib.hid (fun w => Size_ok w m2 (by omega))
      rw [← hz] at HS
      have c0 := KP.out.cell c0 (by simp)
      have c1 := KP.out.cell c1 (by simp)
      have c2 := KP.out.cell c2 (by simp)
      have c3 := KP.out.cell c3 (by simp)
      obtain ⟨px, cx, rfl, _⟩ := hrp.shape
      rw [← hm2] at c3 hrp
      have HRP := Lib.hid hrp
      have HRF := Lib.hid hrf
      have hcw := (K4.out.trans KP.out).cell hcell (by simp)
      have HSS := Lib.hid hss
      unfold maxLen at hml
      have hBw := World.block_lt_of_cell? _ _ hcw
      have hat0 : sizes ((cutP ls).take k) ≤ 2000 := by omega
      generalize sizes ((cutP ls).take k) = at0 at *
      generalize l.length = ll at *
      have hm2l : m2 ≤ ll := by omega
      clear hl hcell hrd hcut hx htk hss hsz hv' hcells hrp hrf hm2 hm2b hz hz4 hMl
      go_upto_region 12 with (fail)
      have wN := Whole.new wr 29 [.int .i64 at0, .int .i64 z, .int .u8 1, .slice px m2 cx]
      have kN : Keeps [] wr (wr.alloc (.cells #[.int .i64 at0, .int .i64 z, .int .u8 1, .slice px m2 cx] 29)) := Keeps.alloc [] _ _
      generalize hV : World.alloc wr _ = V
      have wV : Whole V wr.heap.size 29 [.int .i64 at0, .int .i64 z, .int .u8 1, .slice px m2 cx] := by rw [← hV]; exact wN
      have kV : Keeps [] wr V := by rw [← hV]; exact kN
      have d0 := (wV.cell 0).trans (show _ = some (Value.int .i64 (at0 : Int)) from rfl)
      have d1 := (wV.cell 1).trans (show _ = some (Value.int .i64 (z : Int)) from rfl)
      have d2 := (wV.cell 2).trans (show _ = some (Value.int .u8 1) from rfl)
      have d3 := (wV.cell 3).trans (show _ = some (Value.slice px m2 cx) from rfl)
      have dc := kV.cell hcw (by simp)
      have KV := Lib.hid (KP.out.trans kV)
      have k1n : (k : Int) < (n : Int) := by omega
      have HI := Lib.hid (fun (U : World) (hU : Keeps [] V U) => Is_any U (.slice px m2 cx) (.slice pp m2 cc) (l.take 200) (l.take 200) Mq Mp (HRP.out.keeps ((KP.out.trans kV).trans hU) (by simp)) (HRF.out.keeps ((K4.out.trans (KP.out.trans kV)).trans hU) (by simp)))
      have HI2 := Lib.hid (show ∀ U, Keeps [] V U → Calls Try.prog 17 #[.slice px m2 cx, .slice pp m2 cc] U fun e w' => e = .returned (.bool true) ∧ w' = U from fun U hU => by
        have := HI.out U hU
        rw [beq_self_eq_true] at this
        exact this.mono fun _ _ h => ⟨h.1, h.2.symm⟩)
      have HS2 := Lib.hid (show ∀ U, Calls Try.prog 18 #[.int .i64 m2] U fun e w' => e = .returned (.int .i64 z) ∧ w' = U from fun U => (HS.out U).mono fun _ _ h => ⟨h.1, h.2.symm⟩)
      clear wN kN hV wV kV c0 c1 c2 c3 hcw HI HS
      go_quiet (fail)
      go_wp2
      have kD : Keeps [] V (V.drewN nq) := Keeps.drewN _ _ _
      generalize V.drewN nq = U at *
      have d0 := kD.cell d0 (by simp)
      have d1 := kD.cell d1 (by simp)
      have d2 := kD.cell d2 (by simp)
      have d3 := kD.cell d3 (by simp)
      have KD := Lib.hid kD
      clear kD dc
      go_quiet ((first | (go_at_call 18; exact Calls.quiet_of_same (HS2.out _)) | (go_at_call 17; exact Calls.quiet_of_same (HI2.out _ (KD.out.trans (Keeps.drewN _ _ _))))))
      go_wp2
      refine ⟨⟨k + 1, by omega, by go_num, by rw [HSS.out]; go_num, (KV.out.trans KD.out).trans (Keeps.drewN _ _ _)⟩, by simp [intOf]; omega⟩
    · have hkm : k = m := by omega
      have hall : (cutP ls).take k = cutP ls := by rw [List.take_of_length_le (by rw [HCL.out]; omega)]
      rw [hall, ← HQ.out]
      obtain ⟨p2, c2, hcut2, hr2⟩ := (show Reads w4 (.slice ab bs.length cb) bs b by rw [HLEN.out]; exact HR4.out).behind q (by rw [HLEN.out]; exact hq2)
      rw [HLEN.out] at hcut2 hr2
      have hA := fun (U : World) (hU : Keeps [] w4 U) => At_any U _ (bs.drop q) b (hr2.keeps hU (by simp)) (by simp [HLEN.out]; omega)
      rw [HAT.out] at hA
      have HAA := Lib.hid hA
      have hq2i : (q : Int) ≤ 2048 := by omega
      clear hall hlt hk hA hr2
      go_wp2_with fail
      refine (HAA.out _ KP.out).mono ?_
      rintro e w5 ⟨pa, pn, pc, rfl, _, k5⟩
      dsimp only [recCells]
      have K5 := Lib.hid ((K4.out.trans KP.out).trans k5)
      clear k5
      go_wp2_with (go_at_call 9; refine (awake4_any _).mono ?_; rintro e w6 ⟨rfl, k6⟩; have K6 := Lib.hid k6; clear k6)
      go_ret
      exact ⟨rfl, K5.out.trans K6.out⟩

theorem RecordRow_any (w : World) (v : Value) (ls : List (List UInt8)) (h : Parts w v ls) :
    Calls Try.prog 5 #[v] w fun e w' => e = .returned (.bool true) ∧ Keeps [] w w' := by
  obtain ⟨a, c, B, o, rfl, ha, hp, hm, hc⟩ := h.at
  exact RecordRow_at w a c B o ls ha hp hm hc
end Go.Proofs.Ytjdjjcpglcoojaa
