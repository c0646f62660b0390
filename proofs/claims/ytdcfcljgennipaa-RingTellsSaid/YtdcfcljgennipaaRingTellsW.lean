/-
  RingTells, walked: rings that are there.
-/
import Derived.Test.YtdcfcljgennipaaRingTellsA
namespace Go.Proofs.Ytdcfcljgennipaa
open Go.RowKit Go.Deep

set_option maxRecDepth 100000 in
set_option maxHeartbeats 3000000 in
theorem RingTells_ok (w : World) (v : Value) (n0 : Nat) (hp : Puts5 w w.heap.size v n0) (fi n : Nat) (but : Int) (h3 : 3 ≤ n) (hfit : fi + n ≤ 16) :
    Calls Try.prog 5 #[v, .int .i64 fi, .int .i64 n, .int .i64 but] w fun e w' => e = .returned (.bool true) ∧ Keeps [] w w' := by
  obtain ⟨i0, hi, hz0, hz1, hz2⟩ := info_parts infoHeader
  obtain ⟨j0, hj, hy0, hy1, hy2⟩ := info_parts infoInt
  have HD := Lib.hid (done5_any w v n0 hp)
  clear hp
  have g1 : ¬ (n : Int) < 3 := by omega
  have g2 : ¬ (16 : Int) < (n : Int) := by omega
  have g3 : ¬ (fi : Int) < 0 := by omega
  have g4 : ¬ 16 - (n : Int) < (fi : Int) := by omega
  go_enter Try.func5, Try.ntmps5
  go_wp2_with fail
  refine HD.out.mono ?_
  rintro e w1 ⟨F, B, W, M, s, rfl, hF, hu, k1, hF0, hB0, hW0⟩
  have hbl : s.bs.length = 4096 := by rw [hF.len, hu.wl]
  have hlk := Look_ok w1 hF hu.down fi n h3 (by rw [hu.wl]; exact hfit)
  have HLK := Lib.hid hlk
  have HF := Lib.hid hF
  have HU := Lib.hid hu
  have HBL := Lib.hid hbl
  have K1 := Lib.hid k1
  have HFR := Lib.hid (show ∀ y ∈ [F, B, W], w.heap.size ≤ y from fun y hy => by
    simp at hy
    rcases hy with rfl | rfl | rfl
    · exact hF0
    · exact hB0
    · exact hW0)
  clear hF hu hbl k1 hlk HD hF0 hB0 hW0
  go_wp2_with fail
  refine HLK.out.mono ?_
  rintro e w2 ⟨g, cp, rfl, hg, hh, k2⟩
  have HH2 := Lib.hid hh
  have HF2 := Lib.hid (HF.out.keeps k2 (by simp) (by simp) (by simp) (by simp))
  have K2 := Lib.hid (K1.out.trans k2)
  clear hh k2 HLK HF K1 hg
  go_wp2
  go_loopw [12, 13, 14, 15, 16] (fun wt wv sv _ _ wr => ∃ (k : Nat) (ao : Option Addr) (cp1 : Nat) (bo : Option Addr) (cp2 : Nat), k ≤ n ∧ sv = .int .i64 (fi + k : Nat) ∧ wt = .slice ao k cp1 ∧ wv = .slice bo k cp2 ∧
    Hid (wr.ownsRow w2.heap.size 56 3 (.slice ao k cp1) k (hdrsCells (lookL s.bs fi k))) ∧ Hid (wr.ownsRow w2.heap.size 3 1 (.slice bo k cp2) k ((wearsL s fi k).map (Value.int .i64))) ∧ Hid (Keeps [] w2 wr)) (fun _ _ sv _ _ _ => fi + n - (intOf sv).toNat)
  case atStart => exact ⟨0, none, 0, none, 0, by omega, rfl, rfl, rfl, Lib.hid ⟨rfl, .inl ⟨rfl, rfl⟩⟩, Lib.hid ⟨rfl, .inl ⟨rfl, rfl⟩⟩, Lib.hid (Keeps.refl _ _)⟩
  case round =>
    obtain ⟨k, ao, cp1, bo, cp2, hk, rfl, rfl, rfl, HO, HW, KP⟩ := hrel
    by_cases hlt : k < n
    · have hki : ((fi + k : Nat) : Int) < (fi : Int) + (n : Int) := by omega
      have hkl := lookL_succ s.bs fi k
      have hwl := wearsL_succ s fi k
      have hq16 : fi + k ≤ 15 := by omega
      obtain ⟨q, hq⟩ : ∃ q, q = fi + k := ⟨_, rfl⟩
      have HQ := Lib.hid hq
      rw [← hq] at hki hkl hwl hq16 ⊢
      have HFk := Lib.hid (HF2.out.keeps KP.out (by simp) (by simp) (by simp) (by simp))
      have hqa : (q : Int) * 256 = ((q * 256 : Nat) : Int) := by omega
      have hrd := Read_ok wr HFk.out ((q * 256 : Nat) : Int) 256 HU.out.down (by unfold FS.has; rw [HBL.out]; omega)
      rw [part_sec, show (256 : Int).toNat = 256 from rfl] at hrd
      have hsl : (sec s.bs q).length = 256 := sec_length s.bs q (by rw [HBL.out]; omega)
      have HRD := Lib.hid hrd
      have HSL := Lib.hid hsl
      have HKL := Lib.hid hkl
      have HWL := Lib.hid hwl
      obtain ⟨qa, hqa2⟩ : ∃ qa, qa = q * 256 := ⟨_, rfl⟩
      rw [← hqa2] at hqa HRD
      have hqa3 : qa ≤ 3840 := by omega
      have HWR := Lib.hid (fun U (hU : Keeps [] w2 U) => Wear_any U (HF2.out.keeps hU (by simp) (by simp) (by simp) (by simp)) (q : Int))
      obtain ⟨wq, hwq⟩ : ∃ wq, wq = s.wearOf (q : Int) := ⟨_, rfl⟩
      rw [← hwq] at HWL HWR
      clear hkl hwl hrd hsl hqa2 hq hwq
      go_wp2_with fail
      refine HRD.out.mono ?_
      rintro e w3 ⟨b, c, rfl, hb, hr3, k3⟩
      have hrr := hr3.reads
      rw [HSL.out] at hrr
      have HA3 := Lib.hid (R5Header_any w3 (q : Int) _ (sec s.bs q) b hrr (by rw [HSL.out]; decide) (by have := hr3.lt; omega))
      have K3 := Lib.hid k3
      clear hr3 hrr k3 hb HRD
      rw [show hdrAt s.bs q = hdrOf (q : Int) (sec s.bs q) from rfl] at HKL
      generalize hdrOf (q : Int) (sec s.bs q) = X at *
      obtain ⟨sx, kx, nx⟩ := X
      dsimp only [hdrCells] at HA3
      unfold uv at HA3
      go_wp2_with fail
      refine HA3.out.mono ?_
      rintro e w4 ⟨rfl, k4⟩
      have K34 := Lib.hid (K3.out.trans k4)
      have HO4 := Lib.hid (World.ownsRow.keeps HO.out K34.out (by simp))
      have HW4 := Lib.hid (World.ownsRow.keeps HW.out K34.out (by simp))
      have hs4 := K34.out.size
      have hs5 := KP.out.size
      clear k4 HA3 K3
      go_wp2_with (at_builtin; refine wpList_append_own _ rfl _ _ 50 rfl w2.heap.size 56 i0 (.agg #[.int .i64 0, .int .u8 0, .int .u32 0]) 3 16 Try.underlying50 hi hz0 hz1 hz2 rfl (by decide) (.slice ao k cp1) k (hdrsCells (lookL s.bs fi k)) rfl (HO4.out.alloc _) ⟨w4.heap.size, 0, none⟩ 1 1 [.int .i64 sx, .int .u8 (kx.toNat : Int), .int .u32 (nx.toNat : Int)] rfl rfl ?c1 ?c2 ?c3 ?c4 ?c5 ?_)
      case c1 =>
        intro i u hu
        rw [Addr.add_off, Nat.zero_add, cell_alloc_new]
        simpa using hu
      case c2 => intro u hu; simp at hu; rcases hu with rfl | rfl | rfl <;> rfl
      case c3 => unfold maxLen; omega
      case c4 => omega
      case c5 => simp; omega
      intro v5 w5 hown5 hg5 _
      obtain ⟨ao5, cp5, rfl⟩ := owns_shape2 hown5
      have k45 : Keeps (Value.slice ao k cp1).ownBlock.toList w4 w5 := ((Keeps.alloc [] w4 _).mono (by simp)).trans (Keeps.grown (S := (Value.slice ao k cp1).ownBlock.toList) hg5 (fun j hj => .inl (by rw [hj]; simp)))
      have hS5 : ∀ x ∈ (Value.slice ao k cp1).ownBlock.toList, x < w2.heap.size ∨ ∃ cur T', w4.heap[x]? = some (.cells cur T' (0, 0)) ∧ T' ≠ 3 := by
        intro x hx
        obtain ⟨cur, hcur⟩ := owns_heap HO4.out (g := x) (by simpa using hx)
        exact .inr ⟨cur, _, hcur, by decide⟩
      have HW5 := Lib.hid (owns_keepsT HW4.out k45 hS5)
      have HO5 := Lib.hid (show w5.ownsRow w2.heap.size 56 3 (.slice ao5 (k + 1) cp5) (k + 1) (hdrsCells (lookL s.bs fi (k + 1))) by
        rw [HKL.out, hdrsCells_snoc]
        exact hown5)
      have K25 := Lib.hid ((KP.out.trans K34.out).then k45 (fun x hx => .inr (HO4.out.lt x (by simpa using hx)).1))
      have hs6 := K25.out.size
      clear hown5 hg5 k45 hS5 HO4 HW4 K34 hs4
      go_wp2_with fail
      refine (HWR.out w5 K25.out).mono ?_
      rintro e w' ⟨rfl, rfl⟩
      go_wp2_with (at_builtin; refine wpList_append_own _ rfl _ _ 53 rfl w2.heap.size 3 j0 (.int .i64 0) 1 8 Try.underlying53 hj hy0 hy1 hy2 rfl (by decide) (.slice bo k cp2) k ((wearsL s fi k).map (Value.int .i64)) rfl (HW5.out.alloc _) ⟨w5.heap.size, 0, none⟩ 1 1 [.int .i64 wq] rfl rfl ?c1 ?c2 ?c3 ?c4 ?c5 ?_)
      case c1 =>
        intro i u hu
        rw [Addr.add_off, Nat.zero_add, cell_alloc_new]
        simpa using hu
      case c2 => intro u hu; simp at hu; subst hu; rfl
      case c3 => unfold maxLen; omega
      case c4 => omega
      case c5 => simp; omega
      intro v6 w6 hown6 hg6 _
      obtain ⟨bo6, cp6, rfl⟩ := owns_shape2 hown6
      have k56 : Keeps (Value.slice bo k cp2).ownBlock.toList w5 w6 := ((Keeps.alloc [] w5 _).mono (by simp)).trans (Keeps.grown (S := (Value.slice bo k cp2).ownBlock.toList) hg6 (fun j hj => .inl (by rw [hj]; simp)))
      have hS6 : ∀ x ∈ (Value.slice bo k cp2).ownBlock.toList, x < w2.heap.size ∨ ∃ cur T', w5.heap[x]? = some (.cells cur T' (0, 0)) ∧ T' ≠ 56 := by
        intro x hx
        obtain ⟨cur, hcur⟩ := owns_heap HW5.out (g := x) (by simpa using hx)
        exact .inr ⟨cur, _, hcur, by decide⟩
      have HO6 := Lib.hid (owns_keepsT HO5.out k56 hS6)
      have HW6 := Lib.hid (show w6.ownsRow w2.heap.size 3 1 (.slice bo6 (k + 1) cp6) (k + 1) ((wearsL s fi (k + 1)).map (Value.int .i64)) by
        rw [HWL.out, List.map_append]
        exact hown6)
      have K26 := Lib.hid (K25.out.then k56 (fun x hx => .inr (HW5.out.lt x (by simpa using hx)).1))
      clear hown6 hg6 k56 hS6 HO5 HW5 K25
      go_wp2
      go_roundw
      case rel => exact ⟨k + 1, ao5, cp5, bo6, cp6, by omega, by have := HQ.out; congr 1; omega, rfl, rfl, HO6, HW6, K26⟩
      case measure => have := HQ.out; simp [intOf]; omega
    · obtain rfl : k = n := by omega
      have hki : ¬ ((fi + k : Nat) : Int) < (fi : Int) + (k : Int) := by omega
      have HWT := Lib.hid (show HdrsAt wr (.slice ao k cp1) (lookL s.bs fi k) from HdrsAt.ofOwn (hs := lookL s.bs fi k) (by rw [lookL_length]; exact HO.out))
      obtain ⟨gw, cw, hbv, _, hrow⟩ := Row.ofOwns HW.out (by intro h; simp at h; omega)
      simp only [Value.slice.injEq, true_and] at hbv
      obtain ⟨rfl, rfl⟩ := hbv
      have HWC := Lib.hid (fun (i : Nat) (x : Hdr) (hx : (lookL s.bs fi k)[i]? = some x) => show wr.cell? ⟨gw, i, none⟩ = some (.int .i64 (s.wearOf x.sector)) from by
        have hi : i < k := by have := (List.getElem?_eq_some_iff.1 hx).1; rw [lookL_length] at this; exact this
        rw [lookL_get _ _ _ _ hi] at hx
        cases hx
        exact hrow.cell i (by rw [List.getElem?_map, wearsL_get _ _ _ _ hi]; rfl))
      have HWB := Lib.hid (fun g' (hg' : ao = some ⟨g', 0, none⟩) => show g' ∉ [F, B, W] from by
        have h1 := (HO.out.lt g' (by rw [hg']; rfl)).1
        have h2 := HF2.out.lt
        simp; omega)
      have HHr := Lib.hid (HH2.out.keeps KP.out (by simp))
      have HFr := Lib.hid (HF2.out.keeps KP.out (by simp) (by simp) (by simp) (by simp))
      have KR := Lib.hid (K2.out.trans KP.out)
      obtain ⟨p, p1, p2, hpk⟩ := pick_some s fi k but (by omega)
      have HPK := Lib.hid hpk
      have HP1 := Lib.hid (pick_one s s.bs fi k (by omega))
      have hlen : (lookL s.bs fi k).length ≤ 100000 := by rw [lookL_length]; omega
      have HLEN := Lib.hid hlen
      have hp16 : p ≤ 15 := by omega
      obtain ⟨s1, s2, dd, hcl, hop, hdd, hbl2, hd2, hwr2, hat2, hwl2⟩ := open_used HU.out HBL.out p (by omega) 4294967295#32
      have HCL := Lib.hid hcl
      have HOP := Lib.hid hop
      have HD2 := Lib.hid hd2
      have HBL2 := Lib.hid hbl2
      have HAT2 := Lib.hid hat2
      have HWR2 := Lib.hid hwr2
      have HDD := Lib.hid hdd
      have hbnd : 0 ≤ s.wearOf p ∧ s.wearOf p ≤ 40 := by
        rw [wearOf_nat _ _ (by rw [HU.out.wl]; omega)]
        have hl : p < s.wear.length := by rw [HU.out.wl]; omega
        rw [List.getD_eq_getElem?_getD, List.getElem?_eq_getElem hl]
        exact HU.out.wears _ (List.getElem_mem _)
      obtain ⟨wp, hwp⟩ : ∃ wp, wp = s.wearOf (p : Int) := ⟨_, rfl⟩
      have HWP := Lib.hid hwp
      rw [← hwp] at hbnd
      clear hpk hlen hcl hop hdd hbl2 hd2 hwr2 hat2 hwp hrow HO HW KP
      have hN := Newest_any wr _ _ HHr.out HLEN.out
      obtain ⟨nx, hnx⟩ : ∃ nx, nx = (newestL (lookL s.bs fi k)).getD ⟨0, 0, 0#32⟩ := ⟨_, rfl⟩
      obtain ⟨nb, hnb⟩ : ∃ nb, nb = (newestL (lookL s.bs fi k)).isSome := ⟨_, rfl⟩
      rw [← hnx, ← hnb] at hN
      have HNX := Lib.hid hnx
      have HNB := Lib.hid hnb
      obtain ⟨nsec, nkd, nnm⟩ := nx
      dsimp only [hdrCells] at hN
      unfold uv at hN
      generalize hnk : (nkd.toNat : Int) = nki at hN
      generalize hnn : (nnm.toNat : Int) = nni at hN
      have HNK := Lib.hid hnk
      have HNN := Lib.hid hnn
      have HN := Lib.hid hN
      clear hnx hnb hN hnk hnn
      go_wp2_with fail
      refine HN.out.mono ?_
      rintro e w3 ⟨rfl, k3⟩
      have K3 := Lib.hid k3
      clear k3 HN
      go_upto_region 17 with (fail)
      generalize hX : World.alloc w3 _ = U
      have wU : Whole U w3.heap.size 56 [.int .i64 nsec, .int .u8 nki, .int .u32 nni] := by rw [← hX]; exact Whole.new w3 56 [_, _, _]
      have kU : Keeps [] wr U := K3.out.trans (by rw [← hX]; exact Keeps.alloc [] _ _)
      have WU := Lib.hid wU
      have KU := Lib.hid kU
      have hsU := wU.lt
      clear hX wU kU K3
      have hN2 := R5Newest_any U _ _ (HWT.out.keeps KU.out (by simp)) HLEN.out
      rw [← HNX.out, ← HNB.out] at hN2
      dsimp only [hdrCells] at hN2
      unfold uv at hN2
      rw [HNK.out, HNN.out] at hN2
      have HN2 := Lib.hid hN2
      clear hN2
      go_wp2_with fail
      refine HN2.out.mono ?_
      rintro e w4 ⟨rfl, k4⟩
      have K4 := Lib.hid k4
      clear k4 HN2
      go_upto_region 18 with (fail)
      generalize hX : World.alloc w4 _ = V
      have wV : Whole V w4.heap.size 56 [.int .i64 nsec, .int .u8 nki, .int .u32 nni] := by rw [← hX]; exact Whole.new w4 56 [_, _, _]
      have kV : Keeps [] U V := K4.out.trans (by rw [← hX]; exact Keeps.alloc [] _ _)
      have WV := Lib.hid wV
      have KV := Lib.hid (KU.out.trans kV)
      have WUV := Lib.hid (WU.out.keeps kV (by simp))
      clear hX wV kV K4 KU WU
      have hP := Pick_any V (HFr.out.keeps KV.out (by simp) (by simp) (by simp) (by simp)) (by rw [HU.out.wl]; decide) _ _ (HHr.out.keeps KV.out (by simp)) HLEN.out but
      rw [HPK.out] at hP
      have HP := Lib.hid hP
      clear hP
      dsimp only [Option.getD, Option.isSome] at HP
      rw [show (hdrAt s.bs p).sector = (p : Int) from rfl, if_pos rfl] at HP
      go_wp2_with fail
      refine HP.out.mono ?_
      rintro e w5 ⟨rfl, k5⟩
      have K5 := Lib.hid (KV.out.trans k5)
      have WU5 := Lib.hid (WUV.out.keeps k5 (by simp))
      have WV5 := Lib.hid (WV.out.keeps k5 (by simp))
      clear k5 HP WUV WV KV
      have hP2 := R5Pick_any w5 _ _ (HWT.out.keeps K5.out (by simp)) HLEN.out s but gw cp2 (fun i x hx => K5.out.cell (HWC.out i x hx) (by simp))
      rw [HPK.out, lookL_length, show pickS (some (hdrAt s.bs p)) = (p : Int) from rfl] at hP2
      have HP2 := Lib.hid hP2
      clear hP2
      go_wp2_with fail
      refine HP2.out.mono ?_
      rintro e w6 ⟨rfl, k6⟩
      have K6 := Lib.hid (K5.out.trans k6)
      have WU6 := Lib.hid (WU5.out.keeps k6 (by simp))
      have WV6 := Lib.hid (WV5.out.keeps k6 (by simp))
      clear k6 HP2 WU5 WV5 K5
      go_wp2_with fail
      refine (AreHeaders_same _ _ _ _ (HHr.out.keeps K6.out (by simp)) (HWT.out.keeps K6.out (by simp)) HLEN.out).mono ?_
      rintro e w7 ⟨rfl, k7⟩
      have K7 := Lib.hid (K6.out.trans k7)
      have wu7 := WU6.out.keeps k7 (by simp)
      have wv7 := WV6.out.keeps k7 (by simp)
      have x0 := (wu7.cell 0).trans (show _ = some (Value.int .i64 nsec) from rfl)
      have x1 := (wu7.cell 1).trans (show _ = some (Value.int .u8 nki) from rfl)
      have x2 := (wu7.cell 2).trans (show _ = some (Value.int .u32 nni) from rfl)
      have y0 := (wv7.cell 0).trans (show _ = some (Value.int .i64 nsec) from rfl)
      have y1 := (wv7.cell 1).trans (show _ = some (Value.int .u8 nki) from rfl)
      have y2 := (wv7.cell 2).trans (show _ = some (Value.int .u32 nni) from rfl)
      have hgd := hdr_guard
      have hsm := hdr_equal
      clear k7 WU6 WV6 K6 wu7 wv7
      have hcp : 3 ≤ cp := by
        obtain ⟨ao', cap', hv', hc'⟩ := HHr.out.shape
        simp only [Value.slice.injEq, lookL_length, true_and] at hv'
        obtain ⟨rfl, rfl⟩ := hv'
        rw [lookL_length] at hc'
        omega
      have hcp1 : 1 ≤ cp := by omega
      have hcp2 : ¬ cp = 0 := by omega
      have hcp3 : (1 : Int) ≤ (cp : Int) := by omega
      have hP3 := Pick_any w7 (HFr.out.keeps K7.out (by simp) (by simp) (by simp) (by simp)) (by rw [HU.out.wl]; decide) _ _ ((HHr.out.keeps K7.out (by simp)).take 1 (by rw [lookL_length]; omega)) (by rw [List.length_take, lookL_length]; omega) (fi : Int)
      rw [HP1.out] at hP3
      dsimp only [Option.getD, Option.isSome] at hP3
      rw [if_neg (by decide)] at hP3
      have HP3 := Lib.hid hP3
      clear hP3
      go_wp2_with fail
      refine HP3.out.mono ?_
      rintro e w8 ⟨rfl, k8⟩
      have K8 := Lib.hid (K7.out.trans k8)
      have HF8 := Lib.hid (HFr.out.keeps K8.out (by simp) (by simp) (by simp) (by simp))
      have hW8 := Wear_any w8 HF8.out (p : Int)
      rw [← HWP.out] at hW8
      have HW8 := Lib.hid hW8
      clear k8 HP3 K7 x0 x1 x2 y0 y1 y2 hW8
      go_wp2_with fail
      refine HW8.out.mono ?_
      rintro e w' ⟨rfl, rfl⟩
      have hC := Clear_any w8 HF8.out (p : Int) (by omega) (fun x hx => by have := HU.out.wears x hx; omega)
      rw [HCL.out] at hC
      have HC := Lib.hid hC
      clear hC HW8
      go_wp2_with fail
      refine HC.out.mono ?_
      rintro e w9 ⟨rfl, hf9, k9⟩
      have hO := Open_any w9 hf9 (p : Int) (by omega) 4294967295#32
      rw [HOP.out, show uv 4294967295#32 = Value.int .u32 4294967295 from rfl] at hO
      have HO := Lib.hid hO
      have HHW := Lib.hid ((HWT.out.keeps K8.out (by simp)))
      clear hO hf9 HC
      have K9 := Lib.hid k9
      clear k9
      go_wp2_with fail
      refine HO.out.mono ?_
      rintro e wa ⟨rfl, hfa, ka⟩
      have HFa := Lib.hid hfa
      have K8a := Lib.hid (show Keeps [F, B, W] w8 wa from K9.out.trans (ka.mono (fun x hx => by simp at hx ⊢; rcases hx with rfl | rfl <;> simp)))
      clear hfa ka K9 HO
      have HHa := Lib.hid (HHW.out.keepsBut K8a.out HWB.out)
      have KA := Lib.hid ((KR.out.trans K8.out).then K8a.out (fun x hx => .inr (HFR.out x hx)))
      obtain ⟨pq, hpq⟩ : ∃ pq, pq = p * 256 := ⟨_, rfl⟩
      have hpq1 : (p : Int) * 256 = (pq : Int) := by omega
      have hrd := Read_ok wa HFa.out ((p * 256 : Nat) : Int) 256 HD2.out (by unfold FS.has; rw [HBL2.out]; omega)
      rw [part_sec, show (256 : Int).toNat = 256 from rfl, ← hpq] at hrd
      have HRD := Lib.hid hrd
      have hsl : (sec s2.bs p).length = 256 := sec_length s2.bs p (by rw [HBL2.out]; omega)
      have HSL := Lib.hid hsl
      have hpq3 : pq ≤ 3840 := by omega
      clear hrd hsl hpq K8a HHW HWT HWC HHr HFr K8 HF8
      go_wp2_with fail
      refine HRD.out.mono ?_
      rintro e wb ⟨bb, cb, rfl, hbb, hrb, kb⟩
      have hrr := hrb.reads
      rw [HSL.out] at hrr
      have hh5 := R5Header_any wb (p : Int) _ (sec s2.bs p) bb hrr (by rw [HSL.out]; decide) (by have := hrb.lt; omega)
      rw [show hdrOf (p : Int) (sec s2.bs p) = hdrAt s2.bs p from rfl, HAT2.out] at hh5
      dsimp only [hdrCells] at hh5
      unfold uv at hh5
      have HH5 := Lib.hid (show Calls Try.prog 30 #[.int .i64 (p : Int), .slice (some ⟨bb, 0, none⟩) 256 cb] wb fun e w' => e = .returned (.agg #[.int .i64 (p : Int), .int .u8 1, .int .u32 4294967295]) ∧ Keeps [] wb w' from hh5)
      obtain ⟨dq, hdq⟩ : ∃ dq, dq = p - fi := ⟨_, rfl⟩
      have hdk : dq < k := by omega
      have hdq1 : (p : Int) - (fi : Int) = (dq : Int) := by omega
      have hx := lookL_get s.bs fi k dq hdk
      rw [show fi + dq = p by omega] at hx
      obtain ⟨ao', cap', hv', hc', hcells⟩ := HHa.out.keeps kb (by simp)
      simp only [Value.slice.injEq, lookL_length, true_and] at hv'
      obtain ⟨rfl, rfl⟩ := hv'
      obtain ⟨g'', rfl, hg'', z0, z1, z2⟩ := hcells dq _ hx
      rw [show (hdrAt s.bs p).kind = (hdrL (sec s.bs p)).1 from rfl] at z1
      generalize (hdrL (sec s.bs p)).1 = kq at *
      have hdki : (dq : Int) < (k : Int) := by omega
      have KB := Lib.hid (KA.out.trans kb)
      have HFb := Lib.hid (HFa.out.keeps kb (by simp) (by simp) (by simp) (by simp))
      have hb3 := built_hdr3
      have hwr2 := HWR2.out
      rw [← HWP.out] at hwr2
      have HWE := Lib.hid hwr2
      clear hrb hrr hh5 kb hdq hx hcells hc' HHa HRD z0 z2 hbb hwr2
      have hdc := HDD.out
      rcases hdc with ⟨rfl, rfl⟩ | ⟨rfl, hkq⟩
      · have z1' := z1.trans (show some (Value.int .u8 (((0 : UInt8).toNat : Nat) : Int)) = some (.int .u8 0) from rfl)
        have hwe : s2.wearOf p = wp := by rw [HWE.out]; omega
        have HWA := Lib.hid (fun U (hU : Keeps [] wb U) => Wear_any U (HFb.out.keeps hU (by simp) (by simp) (by simp) (by simp)) (p : Int))
        rw [hwe] at HWA
        clear z1 hwe HWE HDD HAT2
        go_wp2_with fail
        refine HH5.out.mono ?_
        rintro e wc ⟨rfl, kc⟩
        have KC := Lib.hid kc
        clear kc HH5
        go_wp2_with fail
        refine (HWA.out wc KC.out).mono ?_
        rintro e w' ⟨rfl, rfl⟩
        go_wp2_with fail
        refine (HWA.out wc KC.out).mono ?_
        rintro e w' ⟨rfl, rfl⟩
        go_wp2_with (go_at_call 29; refine (awake5_any _).mono ?_; rintro e wf ⟨rfl, kf⟩; have KF := Lib.hid kf; clear kf)
        go_ret
        exact ⟨rfl, (KB.out.trans KC.out).trans KF.out⟩
      · have ekq : (((kq.toNat : Int) == 0) : Bool) = false := by
          have : kq.toNat ≠ 0 := fun e => hkq (UInt8.toNat_inj.1 e)
          simp; omega
        have ekq2 : ¬ (kq.toNat : Int) = 0 := by
          have : kq.toNat ≠ 0 := fun e => hkq (UInt8.toNat_inj.1 e)
          omega
        obtain ⟨wp1, hwp1⟩ : ∃ wp1, wp1 = wp + 1 := ⟨_, rfl⟩
        have hwe : s2.wearOf p = wp1 := by rw [HWE.out, hwp1]
        have HWA := Lib.hid (fun U (hU : Keeps [] wb U) => Wear_any U (HFb.out.keeps hU (by simp) (by simp) (by simp) (by simp)) (p : Int))
        rw [hwe] at HWA
        have ene : ((wp1 == wp) : Bool) = false := by simp; omega
        have ene2 : ¬ wp1 = wp := by omega
        have ele : wp1 ≤ wp + 1 := by omega
        clear hwe HWE HDD HAT2 hwp1
        go_wp2_with fail
        refine HH5.out.mono ?_
        rintro e wc ⟨rfl, kc⟩
        have KC := Lib.hid kc
        clear kc HH5
        go_wp2_with fail
        refine (HWA.out wc KC.out).mono ?_
        rintro e w' ⟨rfl, rfl⟩
        go_wp2_with fail
        refine (HWA.out wc KC.out).mono ?_
        rintro e w' ⟨rfl, rfl⟩
        go_wp2_with (go_at_call 29; refine (awake5_any _).mono ?_; rintro e wf ⟨rfl, kf⟩; have KF := Lib.hid kf; clear kf)
        go_ret
        exact ⟨rfl, (KB.out.trans KC.out).trans KF.out⟩

theorem RingTells_any (w : World) (v : Value) (n0 : Nat) (hp : Puts5 w w.heap.size v n0) (first count but : Int) (hc : -9223372036854775808 ≤ count ∧ count ≤ 9223372036854775807) :
    Calls Try.prog 5 #[v, .int .i64 first, .int .i64 count, .int .i64 but] w fun e w' => e = .returned (.bool true) ∧ Keeps [] w w' := by
  by_cases h : count < 3 ∨ first < 0 ∨ 16 - count < first
  · exact RingTells_bad w v n0 hp first count but hc.2 hc.1 h
  · obtain ⟨n, rfl⟩ := Int.eq_ofNat_of_zero_le (show 0 ≤ count by omega)
    obtain ⟨fi, rfl⟩ := Int.eq_ofNat_of_zero_le (show 0 ≤ first by omega)
    exact RingTells_ok w v n0 hp fi n but (by omega) (by omega)
end Go.Proofs.Ytdcfcljgennipaa
