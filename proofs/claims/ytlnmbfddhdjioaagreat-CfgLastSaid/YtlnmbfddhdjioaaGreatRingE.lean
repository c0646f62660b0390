/-
  Contracts of ring: best, of the closures of Newest and of Pick.
-/
import Derived.Test.YtlnmbfddhdjioaaGreatRingD
namespace Go.Proofs.YtlnmbfddhdjioaaGreat
open Go.RowKit

set_option maxRecDepth 100000 in
set_option maxHeartbeats 2000000 in
theorem best_newest (w : World) (lv : Value) (l : List Hdr) (hl : HdrsAt w lv l) (hn : l.length ≤ 100000) (counts : Hdr → Bool) (better : Hdr → Hdr → Bool)
    (HC : ∀ (W : World) (h : Hdr), Keeps [] w W → Calls Tryz.prog 43 #[.agg #[.int .i64 h.sector, .int .u8 (h.kind.toNat : Int), .int .u32 (h.num.toNat : Int)]] W fun e W' => e = .returned (.bool (counts h)) ∧ Keeps [] W W')
    (HB : ∀ (W : World) (a b : Hdr), Keeps [] w W → Calls Tryz.prog 44 #[.agg #[.int .i64 a.sector, .int .u8 (a.kind.toNat : Int), .int .u32 (a.num.toNat : Int)], .agg #[.int .i64 b.sector, .int .u8 (b.kind.toNat : Int), .int .u32 (b.num.toNat : Int)]] W fun e W' => e = .returned (.bool (better a b)) ∧ Keeps [] W W') :
    Calls Tryz.prog 45 #[lv, .func (.func 43) #[] #[], .func (.func 44) #[] #[]] w
      fun e w' => e = .returned (.tuple #[.agg (hdrCells ((bestL counts better l).getD ⟨0, 0, 0#32⟩)).toArray, .bool (bestL counts better l).isSome]) ∧ Keeps [] w w' := by
  obtain ⟨ao, cap, rfl, hcap, hcl⟩ := hl
  obtain ⟨n, hnn⟩ : ∃ n, n = l.length := ⟨_, rfl⟩
  have HN := Lib.hid hnn
  have HCL := Lib.hid hcl
  have HHC := Lib.hid HC
  have HHB := Lib.hid HB
  obtain ⟨res, hres⟩ : ∃ res, res = bestL counts better l := ⟨_, rfl⟩
  have HRES := Lib.hid hres
  rw [← hres]
  rw [← hnn] at hcap hn ⊢
  clear hnn hcl HC HB hres
  go_enter Tryz.func45, Tryz.ntmps45
  go_upto_region 2 with (fail)
  generalize hV : World.alloc (World.alloc w _) _ = V
  have kV : Keeps [] w V := by rw [← hV]; exact (Keeps.alloc [] _ _).trans (Keeps.alloc [] _ _)
  have wR : Whole V w.heap.size 60 (hdrCells ⟨0, 0, 0#32⟩) := by
    rw [← hV]; exact (Whole.new w 60 [_, _, _]).keeps (Keeps.alloc [] _ _) (by simp)
  have wC : Whole V (w.heap.size + 1) 60 (hdrCells ⟨0, 0, 0#32⟩) := by
    rw [← hV]; exact Whole.new_at _ 60 [_, _, _] _ (by simp)
  have KV := Lib.hid kV
  have WR := Lib.hid wR
  have WC := Lib.hid wC
  clear hV kV wR wC
  go_wp2
  go_loopw [9, 11, 14] (fun fd _ i wr => ∃ k : Nat, k ≤ n ∧ i = .int .i64 k ∧ fd = .bool (bestL counts better (l.take k)).isSome ∧ Whole wr w.heap.size 60 (hdrCells ⟨0, 0, 0#32⟩) ∧
    Whole wr (w.heap.size + 1) 60 (hdrCells ((bestL counts better (l.take k)).getD ⟨0, 0, 0#32⟩)) ∧ Keeps [] w wr) (fun _ _ i _ => n - (intOf i).toNat)
  case atStart => exact ⟨0, Nat.zero_le _, rfl, rfl, WR.out, WC.out, KV.out⟩
  case round =>
    obtain ⟨k, hk, rfl, rfl, wR, wC, kw⟩ := hrel
    by_cases hlt : k < n
    · obtain ⟨x, hx⟩ : ∃ x, l[k]? = some x := ⟨_, List.getElem?_eq_getElem (by rw [← HN.out]; exact hlt)⟩
      obtain ⟨g, rfl, hg, c0, c1, c2⟩ := HCL.out k x hx
      have c0 := kw.cell c0 (by simp)
      have c1 := kw.cell c1 (by simp)
      have c2 := kw.cell c2 (by simp)
      have hki : (k : Int) < (n : Int) := by omega
      have HST := Lib.hid (bestL_take counts better l k x hx)
      generalize hacc : bestL counts better (l.take k) = acc at *
      have WR1 := Lib.hid wR
      have WC1 := Lib.hid wC
      have KW := Lib.hid kw
      have sC := wC.lt
      clear hx wR wC kw hacc
      obtain ⟨sx, kx, nx⟩ := x
      dsimp only at c0 c1 c2
      go_upto_region 6 with (fail)
      generalize hU : World.alloc wr _ = U
      have wX : Whole U wr.heap.size 60 [.int .i64 sx, .int .u8 (kx.toNat : Int), .int .u32 (nx.toNat : Int)] := by
        rw [← hU]; exact Whole.new wr 60 [_, _, _]
      have kU : Keeps [] wr U := by rw [← hU]; exact Keeps.alloc [] _ _
      have q0 := (wX.cell 0).trans (show _ = some (Value.int .i64 sx) from rfl)
      have q1 := (wX.cell 1).trans (show _ = some (Value.int .u8 (kx.toNat : Int)) from rfl)
      have q2 := (wX.cell 2).trans (show _ = some (Value.int .u32 (nx.toNat : Int)) from rfl)
      have sX := wX.lt
      have CC := Lib.hid (HHC.out U ⟨sx, kx, nx⟩ (KW.out.trans kU))
      have WR2 := Lib.hid (WR1.out.keeps kU (by simp))
      have WC2 := Lib.hid (WC1.out.keeps kU (by simp))
      have KU := Lib.hid (KW.out.trans kU)
      have WX := Lib.hid wX
      clear hU wX kU WR1 WC1 KW c0 c1 c2
      generalize wr.heap.size = X at *
      generalize hkz : (kx.toNat : Int) = kz at *
      generalize hnz : (nx.toNat : Int) = nz at *
      cases hc : counts ⟨sx, kx, nx⟩ with
      | false =>
        rw [hc] at CC
        have HS2 := Lib.hid (show bestStep counts better acc ⟨sx, kx, nx⟩ = acc by unfold bestStep; rw [if_neg (by rw [hc]; simp)])
        clear hc
        go_wp2_with (go_at_call 43; refine CC.out.mono ?_; rintro e w2 ⟨rfl, k2⟩; have K2 := Lib.hid k2; clear k2)
        go_roundw
        case rel => exact ⟨k + 1, by omega, by go_num, by rw [HST.out, HS2.out], WR2.out.keeps K2.out (by simp), by rw [HST.out, HS2.out]; exact WC2.out.keeps K2.out (by simp), KU.out.trans K2.out⟩
        case measure => simp [intOf]; omega
      | true =>
        rw [hc] at CC
        cases acc with
        | none =>
          have HS2 := Lib.hid (show bestStep counts better none ⟨sx, kx, nx⟩ = some ⟨sx, kx, nx⟩ by unfold bestStep; rw [if_pos ⟨hc, fun c h => by cases h⟩])
          clear hc
          dsimp only [Option.isSome]
          go_wp2_with fail
          refine CC.out.mono ?_
          rintro e w2 ⟨rfl, k2⟩
          have q0 := k2.cell q0 (by simp)
          have q1 := k2.cell q1 (by simp)
          have q2 := k2.cell q2 (by simp)
          have WR3 := Lib.hid (WR2.out.keeps k2 (by simp))
          have WC3 := Lib.hid (WC2.out.keeps k2 (by simp))
          have KU3 := Lib.hid (KU.out.trans k2)
          clear k2
          go_wp2_with (refine wpList_store_row rfl 60 _ _ rfl (w.heap.size + 1) #[.int .i64 sx, .int .u8 kz, .int .u32 nz] rfl rfl 60 (hdrCells ⟨0, 0, 0#32⟩).toArray WC3.out (by rw [szHeader]; rfl) rfl (hdr_one _ _ _) ?_)
          have WC4 := WC3.out.setRow [.int .i64 sx, .int .u8 kz, .int .u32 nz]
          have k4 : Keeps [w.heap.size + 1] w2 (w2.setRow (w.heap.size + 1) #[.int .i64 sx, .int .u8 kz, .int .u32 nz]) := Keeps.setRow _ (by simp) _
          have WR4 := Lib.hid (WR3.out.keeps k4 (by simp))
          have KU4 := Lib.hid (KU3.out.then k4 (fun x hx => .inr (by simp at hx; omega)))
          have WC5 := Lib.hid WC4
          clear WC4 k4
          go_wp2
          go_roundw
          case rel => exact ⟨k + 1, by omega, by go_num, by rw [HST.out, HS2.out]; rfl, WR4.out, by rw [HST.out, HS2.out]; unfold hdrCells; simp only [Option.getD]; unfold uv; rw [hkz, hnz]; exact WC5.out, KU4.out⟩
          case measure => simp [intOf]; omega
        | some c =>
          obtain ⟨sc, kc, nc⟩ := c
          have wc : Whole U (w.heap.size + 1) 60 [.int .i64 sc, .int .u8 (kc.toNat : Int), .int .u32 (nc.toNat : Int)] := WC2.out
          have HB2 := Lib.hid (fun U2 (hk : Keeps [] U U2) => HHB.out U2 ⟨sx, kx, nx⟩ ⟨sc, kc, nc⟩ (KU.out.trans hk))
          dsimp only at HB2
          rw [hkz, hnz] at HB2
          have HSY := Lib.hid (show better ⟨sx, kx, nx⟩ ⟨sc, kc, nc⟩ = true → bestStep counts better (some ⟨sc, kc, nc⟩) ⟨sx, kx, nx⟩ = some ⟨sx, kx, nx⟩ from fun hb => by unfold bestStep; rw [if_pos ⟨hc, fun c h => by cases h; exact hb⟩])
          have HSN := Lib.hid (show better ⟨sx, kx, nx⟩ ⟨sc, kc, nc⟩ = false → bestStep counts better (some ⟨sc, kc, nc⟩) ⟨sx, kx, nx⟩ = some ⟨sc, kc, nc⟩ from fun hb => by unfold bestStep; rw [if_neg (fun h => by have := h.2 _ rfl; rw [hb] at this; cases this)])
          generalize hkcz : (kc.toNat : Int) = kcz at *
          generalize hncz : (nc.toNat : Int) = ncz at *
          clear hc
          dsimp only [Option.isSome]
          go_wp2_with fail
          refine CC.out.mono ?_
          rintro e w2 ⟨rfl, k2⟩
          have q0 := k2.cell q0 (by simp)
          have q1 := k2.cell q1 (by simp)
          have q2 := k2.cell q2 (by simp)
          have wc2 := wc.keeps k2 (by simp)
          have p0 := (wc2.cell 0).trans (show _ = some (Value.int .i64 sc) from rfl)
          have p1 := (wc2.cell 1).trans (show _ = some (Value.int .u8 kcz) from rfl)
          have p2 := (wc2.cell 2).trans (show _ = some (Value.int .u32 ncz) from rfl)
          have WC3 := Lib.hid wc2
          have WR3 := Lib.hid (WR2.out.keeps k2 (by simp))
          have KU3 := Lib.hid (KU.out.trans k2)
          have HB3 := Lib.hid (HB2.out w2 k2)
          clear k2 wc wc2 HB2 WC2
          cases hb : better ⟨sx, kx, nx⟩ ⟨sc, kc, nc⟩ with
          | false =>
            have HS2 := Lib.hid (HSN.out hb)
            rw [hb] at HB3
            clear hb HSN HSY
            go_wp2_with (go_at_call 44; refine HB3.out.mono ?_; rintro e w3 ⟨rfl, k3⟩; have K3 := Lib.hid k3; clear k3)
            go_roundw
            case rel => exact ⟨k + 1, by omega, by go_num, by rw [HST.out, HS2.out]; rfl, WR3.out.keeps K3.out (by simp), by rw [HST.out, HS2.out]; unfold hdrCells; simp only [Option.getD]; unfold uv; rw [hkcz, hncz]; exact WC3.out.keeps K3.out (by simp), KU3.out.trans K3.out⟩
            case measure => simp [intOf]; omega
          | true =>
            have HS2 := Lib.hid (HSY.out hb)
            rw [hb] at HB3
            clear hb HSN HSY
            go_wp2_with fail
            refine HB3.out.mono ?_
            rintro e w3 ⟨rfl, k3⟩
            have q0 := k3.cell q0 (by simp)
            have q1 := k3.cell q1 (by simp)
            have q2 := k3.cell q2 (by simp)
            have WR4 := Lib.hid (WR3.out.keeps k3 (by simp))
            have WC4 := Lib.hid (WC3.out.keeps k3 (by simp))
            have KU4 := Lib.hid (KU3.out.trans k3)
            clear k3 p0 p1 p2
            go_wp2_with (refine wpList_store_row rfl 60 _ _ rfl (w.heap.size + 1) #[.int .i64 sx, .int .u8 kz, .int .u32 nz] rfl rfl 60 #[.int .i64 sc, .int .u8 kcz, .int .u32 ncz] WC4.out (by rw [szHeader]; rfl) rfl (hdr_one _ _ _) ?_)
            have WC5 := WC4.out.setRow [.int .i64 sx, .int .u8 kz, .int .u32 nz]
            have k5 : Keeps [w.heap.size + 1] w3 (w3.setRow (w.heap.size + 1) #[.int .i64 sx, .int .u8 kz, .int .u32 nz]) := Keeps.setRow _ (by simp) _
            have WR5 := Lib.hid (WR4.out.keeps k5 (by simp))
            have KU5 := Lib.hid (KU4.out.then k5 (fun x hx => .inr (by simp at hx; omega)))
            have WC6 := Lib.hid WC5
            clear WC5 k5
            go_wp2
            go_roundw
            case rel => exact ⟨k + 1, by omega, by go_num, by rw [HST.out, HS2.out]; rfl, WR5.out, by rw [HST.out, HS2.out]; unfold hdrCells; simp only [Option.getD]; unfold uv; rw [hkz, hnz]; exact WC6.out, KU5.out⟩
            case measure => simp [intOf]; omega
    · obtain rfl : k = n := by omega
      have htk : l.take k = l := List.take_of_length_le (by rw [← HN.out]; exact Nat.le_refl _)
      rw [htk, ← HRES.out] at wC ⊢
      have WR1 := Lib.hid wR
      have KW := Lib.hid kw
      have sC := wC.lt
      obtain ⟨⟨sc, kc, nc⟩, hcx⟩ : ∃ c, c = res.getD ⟨0, 0, 0#32⟩ := ⟨_, rfl⟩
      rw [← hcx] at wC
      have HCX := Lib.hid hcx
      have wc : Whole wr (w.heap.size + 1) 60 [.int .i64 sc, .int .u8 (kc.toNat : Int), .int .u32 (nc.toNat : Int)] := wC
      have p0 := (wc.cell 0).trans (show _ = some (Value.int .i64 sc) from rfl)
      have p1 := (wc.cell 1).trans (show _ = some (Value.int .u8 (kc.toNat : Int)) from rfl)
      have p2 := (wc.cell 2).trans (show _ = some (Value.int .u32 (nc.toNat : Int)) from rfl)
      clear htk wR wC kw hcx wc
      go_wp2_with (refine wpList_store_row rfl 60 _ _ rfl w.heap.size #[.int .i64 sc, .int .u8 (kc.toNat : Int), .int .u32 (nc.toNat : Int)] rfl rfl 60 (hdrCells ⟨0, 0, 0#32⟩).toArray WR1.out (by rw [szHeader]; rfl) rfl (hdr_one _ _ _) ?_)
      have WR2 := WR1.out.setRow [.int .i64 sc, .int .u8 (kc.toNat : Int), .int .u32 (nc.toNat : Int)]
      refine bodyPost_ret (results_row_tmp rfl _ _ w.heap.size 60 #[.int .i64 sc, .int .u8 (kc.toNat : Int), .int .u32 (nc.toNat : Int)] (0, 0) _ rfl WR2 Tryz.underlying60 rfl (by rw [szHeader]; rfl) _ rfl) rfl ?_
      exact ⟨by rw [← HCX.out]; rfl, KW.out.then (Keeps.setRow (S := [w.heap.size]) _ (by simp) _) (fun x hx => .inr (by simp at hx; omega))⟩

set_option maxRecDepth 100000 in
set_option maxHeartbeats 2000000 in
theorem best_pick (w : World) (lv : Value) (l : List Hdr) (hl : HdrsAt w lv l) (hn : l.length ≤ 100000) (counts : Hdr → Bool) (better : Hdr → Hdr → Bool) (bx fx : Nat)
    (HC : ∀ (W : World) (h : Hdr), Keeps [] w W → Calls Tryz.prog 115 #[.agg #[.int .i64 h.sector, .int .u8 (h.kind.toNat : Int), .int .u32 (h.num.toNat : Int)], .pointer (some ⟨bx, 0, none⟩)] W fun e W' => e = .returned (.bool (counts h)) ∧ Keeps [] W W')
    (HB : ∀ (W : World) (a b : Hdr), Keeps [] w W → Calls Tryz.prog 116 #[.agg #[.int .i64 a.sector, .int .u8 (a.kind.toNat : Int), .int .u32 (a.num.toNat : Int)], .agg #[.int .i64 b.sector, .int .u8 (b.kind.toNat : Int), .int .u32 (b.num.toNat : Int)], .pointer (some ⟨fx, 0, none⟩)] W fun e W' => e = .returned (.bool (better a b)) ∧ Keeps [] W W') :
    Calls Tryz.prog 45 #[lv, .func (.func 115) #[] #[.pointer (some ⟨bx, 0, none⟩)], .func (.func 116) #[] #[.pointer (some ⟨fx, 0, none⟩)]] w
      fun e w' => e = .returned (.tuple #[.agg (hdrCells ((bestL counts better l).getD ⟨0, 0, 0#32⟩)).toArray, .bool (bestL counts better l).isSome]) ∧ Keeps [] w w' := by
  obtain ⟨ao, cap, rfl, hcap, hcl⟩ := hl
  obtain ⟨n, hnn⟩ : ∃ n, n = l.length := ⟨_, rfl⟩
  have HN := Lib.hid hnn
  have HCL := Lib.hid hcl
  have HHC := Lib.hid HC
  have HHB := Lib.hid HB
  obtain ⟨res, hres⟩ : ∃ res, res = bestL counts better l := ⟨_, rfl⟩
  have HRES := Lib.hid hres
  rw [← hres]
  rw [← hnn] at hcap hn ⊢
  clear hnn hcl HC HB hres
  go_enter Tryz.func45, Tryz.ntmps45
  go_upto_region 2 with (fail)
  generalize hV : World.alloc (World.alloc w _) _ = V
  have kV : Keeps [] w V := by rw [← hV]; exact (Keeps.alloc [] _ _).trans (Keeps.alloc [] _ _)
  have wR : Whole V w.heap.size 60 (hdrCells ⟨0, 0, 0#32⟩) := by
    rw [← hV]; exact (Whole.new w 60 [_, _, _]).keeps (Keeps.alloc [] _ _) (by simp)
  have wC : Whole V (w.heap.size + 1) 60 (hdrCells ⟨0, 0, 0#32⟩) := by
    rw [← hV]; exact Whole.new_at _ 60 [_, _, _] _ (by simp)
  have KV := Lib.hid kV
  have WR := Lib.hid wR
  have WC := Lib.hid wC
  clear hV kV wR wC
  go_wp2
  go_loopw [9, 11, 14] (fun fd _ i wr => ∃ k : Nat, k ≤ n ∧ i = .int .i64 k ∧ fd = .bool (bestL counts better (l.take k)).isSome ∧ Whole wr w.heap.size 60 (hdrCells ⟨0, 0, 0#32⟩) ∧
    Whole wr (w.heap.size + 1) 60 (hdrCells ((bestL counts better (l.take k)).getD ⟨0, 0, 0#32⟩)) ∧ Keeps [] w wr) (fun _ _ i _ => n - (intOf i).toNat)
  case atStart => exact ⟨0, Nat.zero_le _, rfl, rfl, WR.out, WC.out, KV.out⟩
  case round =>
    obtain ⟨k, hk, rfl, rfl, wR, wC, kw⟩ := hrel
    by_cases hlt : k < n
    · obtain ⟨x, hx⟩ : ∃ x, l[k]? = some x := ⟨_, List.getElem?_eq_getElem (by rw [← HN.out]; exact hlt)⟩
      obtain ⟨g, rfl, hg, c0, c1, c2⟩ := HCL.out k x hx
      have c0 := kw.cell c0 (by simp)
      have c1 := kw.cell c1 (by simp)
      have c2 := kw.cell c2 (by simp)
      have hki : (k : Int) < (n : Int) := by omega
      have HST := Lib.hid (bestL_take counts better l k x hx)
      generalize hacc : bestL counts better (l.take k) = acc at *
      have WR1 := Lib.hid wR
      have WC1 := Lib.hid wC
      have KW := Lib.hid kw
      have sC := wC.lt
      clear hx wR wC kw hacc
      obtain ⟨sx, kx, nx⟩ := x
      dsimp only at c0 c1 c2
      go_upto_region 6 with (fail)
      generalize hU : World.alloc wr _ = U
      have wX : Whole U wr.heap.size 60 [.int .i64 sx, .int .u8 (kx.toNat : Int), .int .u32 (nx.toNat : Int)] := by
        rw [← hU]; exact Whole.new wr 60 [_, _, _]
      have kU : Keeps [] wr U := by rw [← hU]; exact Keeps.alloc [] _ _
      have q0 := (wX.cell 0).trans (show _ = some (Value.int .i64 sx) from rfl)
      have q1 := (wX.cell 1).trans (show _ = some (Value.int .u8 (kx.toNat : Int)) from rfl)
      have q2 := (wX.cell 2).trans (show _ = some (Value.int .u32 (nx.toNat : Int)) from rfl)
      have sX := wX.lt
      have CC := Lib.hid (HHC.out U ⟨sx, kx, nx⟩ (KW.out.trans kU))
      have WR2 := Lib.hid (WR1.out.keeps kU (by simp))
      have WC2 := Lib.hid (WC1.out.keeps kU (by simp))
      have KU := Lib.hid (KW.out.trans kU)
      have WX := Lib.hid wX
      clear hU wX kU WR1 WC1 KW c0 c1 c2
      generalize wr.heap.size = X at *
      generalize hkz : (kx.toNat : Int) = kz at *
      generalize hnz : (nx.toNat : Int) = nz at *
      cases hc : counts ⟨sx, kx, nx⟩ with
      | false =>
        rw [hc] at CC
        have HS2 := Lib.hid (show bestStep counts better acc ⟨sx, kx, nx⟩ = acc by unfold bestStep; rw [if_neg (by rw [hc]; simp)])
        clear hc
        go_wp2_with (go_at_call 115; refine CC.out.mono ?_; rintro e w2 ⟨rfl, k2⟩; have K2 := Lib.hid k2; clear k2)
        go_roundw
        case rel => exact ⟨k + 1, by omega, by go_num, by rw [HST.out, HS2.out], WR2.out.keeps K2.out (by simp), by rw [HST.out, HS2.out]; exact WC2.out.keeps K2.out (by simp), KU.out.trans K2.out⟩
        case measure => simp [intOf]; omega
      | true =>
        rw [hc] at CC
        cases acc with
        | none =>
          have HS2 := Lib.hid (show bestStep counts better none ⟨sx, kx, nx⟩ = some ⟨sx, kx, nx⟩ by unfold bestStep; rw [if_pos ⟨hc, fun c h => by cases h⟩])
          clear hc
          dsimp only [Option.isSome]
          go_wp2_with fail
          refine CC.out.mono ?_
          rintro e w2 ⟨rfl, k2⟩
          have q0 := k2.cell q0 (by simp)
          have q1 := k2.cell q1 (by simp)
          have q2 := k2.cell q2 (by simp)
          have WR3 := Lib.hid (WR2.out.keeps k2 (by simp))
          have WC3 := Lib.hid (WC2.out.keeps k2 (by simp))
          have KU3 := Lib.hid (KU.out.trans k2)
          clear k2
          go_wp2_with (refine wpList_store_row rfl 60 _ _ rfl (w.heap.size + 1) #[.int .i64 sx, .int .u8 kz, .int .u32 nz] rfl rfl 60 (hdrCells ⟨0, 0, 0#32⟩).toArray WC3.out (by rw [szHeader]; rfl) rfl (hdr_one _ _ _) ?_)
          have WC4 := WC3.out.setRow [.int .i64 sx, .int .u8 kz, .int .u32 nz]
          have k4 : Keeps [w.heap.size + 1] w2 (w2.setRow (w.heap.size + 1) #[.int .i64 sx, .int .u8 kz, .int .u32 nz]) := Keeps.setRow _ (by simp) _
          have WR4 := Lib.hid (WR3.out.keeps k4 (by simp))
          have KU4 := Lib.hid (KU3.out.then k4 (fun x hx => .inr (by simp at hx; omega)))
          have WC5 := Lib.hid WC4
          clear WC4 k4
          go_wp2
          go_roundw
          case rel => exact ⟨k + 1, by omega, by go_num, by rw [HST.out, HS2.out]; rfl, WR4.out, by rw [HST.out, HS2.out]; unfold hdrCells; simp only [Option.getD]; unfold uv; rw [hkz, hnz]; exact WC5.out, KU4.out⟩
          case measure => simp [intOf]; omega
        | some c =>
          obtain ⟨sc, kc, nc⟩ := c
          have wc : Whole U (w.heap.size + 1) 60 [.int .i64 sc, .int .u8 (kc.toNat : Int), .int .u32 (nc.toNat : Int)] := WC2.out
          have HB2 := Lib.hid (fun U2 (hk : Keeps [] U U2) => HHB.out U2 ⟨sx, kx, nx⟩ ⟨sc, kc, nc⟩ (KU.out.trans hk))
          dsimp only at HB2
          rw [hkz, hnz] at HB2
          have HSY := Lib.hid (show better ⟨sx, kx, nx⟩ ⟨sc, kc, nc⟩ = true → bestStep counts better (some ⟨sc, kc, nc⟩) ⟨sx, kx, nx⟩ = some ⟨sx, kx, nx⟩ from fun hb => by unfold bestStep; rw [if_pos ⟨hc, fun c h => by cases h; exact hb⟩])
          have HSN := Lib.hid (show better ⟨sx, kx, nx⟩ ⟨sc, kc, nc⟩ = false → bestStep counts better (some ⟨sc, kc, nc⟩) ⟨sx, kx, nx⟩ = some ⟨sc, kc, nc⟩ from fun hb => by unfold bestStep; rw [if_neg (fun h => by have := h.2 _ rfl; rw [hb] at this; cases this)])
          generalize hkcz : (kc.toNat : Int) = kcz at *
          generalize hncz : (nc.toNat : Int) = ncz at *
          clear hc
          dsimp only [Option.isSome]
          go_wp2_with fail
          refine CC.out.mono ?_
          rintro e w2 ⟨rfl, k2⟩
          have q0 := k2.cell q0 (by simp)
          have q1 := k2.cell q1 (by simp)
          have q2 := k2.cell q2 (by simp)
          have wc2 := wc.keeps k2 (by simp)
          have p0 := (wc2.cell 0).trans (show _ = some (Value.int .i64 sc) from rfl)
          have p1 := (wc2.cell 1).trans (show _ = some (Value.int .u8 kcz) from rfl)
          have p2 := (wc2.cell 2).trans (show _ = some (Value.int .u32 ncz) from rfl)
          have WC3 := Lib.hid wc2
          have WR3 := Lib.hid (WR2.out.keeps k2 (by simp))
          have KU3 := Lib.hid (KU.out.trans k2)
          have HB3 := Lib.hid (HB2.out w2 k2)
          clear k2 wc wc2 HB2 WC2
          cases hb : better ⟨sx, kx, nx⟩ ⟨sc, kc, nc⟩ with
          | false =>
            have HS2 := Lib.hid (HSN.out hb)
            rw [hb] at HB3
            clear hb HSN HSY
            go_wp2_with (go_at_call 116; refine HB3.out.mono ?_; rintro e w3 ⟨rfl, k3⟩; have K3 := Lib.hid k3; clear k3)
            go_roundw
            case rel => exact ⟨k + 1, by omega, by go_num, by rw [HST.out, HS2.out]; rfl, WR3.out.keeps K3.out (by simp), by rw [HST.out, HS2.out]; unfold hdrCells; simp only [Option.getD]; unfold uv; rw [hkcz, hncz]; exact WC3.out.keeps K3.out (by simp), KU3.out.trans K3.out⟩
            case measure => simp [intOf]; omega
          | true =>
            have HS2 := Lib.hid (HSY.out hb)
            rw [hb] at HB3
            clear hb HSN HSY
            go_wp2_with fail
            refine HB3.out.mono ?_
            rintro e w3 ⟨rfl, k3⟩
            have q0 := k3.cell q0 (by simp)
            have q1 := k3.cell q1 (by simp)
            have q2 := k3.cell q2 (by simp)
            have WR4 := Lib.hid (WR3.out.keeps k3 (by simp))
            have WC4 := Lib.hid (WC3.out.keeps k3 (by simp))
            have KU4 := Lib.hid (KU3.out.trans k3)
            clear k3 p0 p1 p2
            go_wp2_with (refine wpList_store_row rfl 60 _ _ rfl (w.heap.size + 1) #[.int .i64 sx, .int .u8 kz, .int .u32 nz] rfl rfl 60 #[.int .i64 sc, .int .u8 kcz, .int .u32 ncz] WC4.out (by rw [szHeader]; rfl) rfl (hdr_one _ _ _) ?_)
            have WC5 := WC4.out.setRow [.int .i64 sx, .int .u8 kz, .int .u32 nz]
            have k5 : Keeps [w.heap.size + 1] w3 (w3.setRow (w.heap.size + 1) #[.int .i64 sx, .int .u8 kz, .int .u32 nz]) := Keeps.setRow _ (by simp) _
            have WR5 := Lib.hid (WR4.out.keeps k5 (by simp))
            have KU5 := Lib.hid (KU4.out.then k5 (fun x hx => .inr (by simp at hx; omega)))
            have WC6 := Lib.hid WC5
            clear WC5 k5
            go_wp2
            go_roundw
            case rel => exact ⟨k + 1, by omega, by go_num, by rw [HST.out, HS2.out]; rfl, WR5.out, by rw [HST.out, HS2.out]; unfold hdrCells; simp only [Option.getD]; unfold uv; rw [hkz, hnz]; exact WC6.out, KU5.out⟩
            case measure => simp [intOf]; omega
    · obtain rfl : k = n := by omega
      have htk : l.take k = l := List.take_of_length_le (by rw [← HN.out]; exact Nat.le_refl _)
      rw [htk, ← HRES.out] at wC ⊢
      have WR1 := Lib.hid wR
      have KW := Lib.hid kw
      have sC := wC.lt
      obtain ⟨⟨sc, kc, nc⟩, hcx⟩ : ∃ c, c = res.getD ⟨0, 0, 0#32⟩ := ⟨_, rfl⟩
      rw [← hcx] at wC
      have HCX := Lib.hid hcx
      have wc : Whole wr (w.heap.size + 1) 60 [.int .i64 sc, .int .u8 (kc.toNat : Int), .int .u32 (nc.toNat : Int)] := wC
      have p0 := (wc.cell 0).trans (show _ = some (Value.int .i64 sc) from rfl)
      have p1 := (wc.cell 1).trans (show _ = some (Value.int .u8 (kc.toNat : Int)) from rfl)
      have p2 := (wc.cell 2).trans (show _ = some (Value.int .u32 (nc.toNat : Int)) from rfl)
      clear htk wR wC kw hcx wc
      go_wp2_with (refine wpList_store_row rfl 60 _ _ rfl w.heap.size #[.int .i64 sc, .int .u8 (kc.toNat : Int), .int .u32 (nc.toNat : Int)] rfl rfl 60 (hdrCells ⟨0, 0, 0#32⟩).toArray WR1.out (by rw [szHeader]; rfl) rfl (hdr_one _ _ _) ?_)
      have WR2 := WR1.out.setRow [.int .i64 sc, .int .u8 (kc.toNat : Int), .int .u32 (nc.toNat : Int)]
      refine bodyPost_ret (results_row_tmp rfl _ _ w.heap.size 60 #[.int .i64 sc, .int .u8 (kc.toNat : Int), .int .u32 (nc.toNat : Int)] (0, 0) _ rfl WR2 Tryz.underlying60 rfl (by rw [szHeader]; rfl) _ rfl) rfl ?_
      exact ⟨by rw [← HCX.out]; rfl, KW.out.then (Keeps.setRow (S := [w.heap.size]) _ (by simp) _) (fun x hx => .inr (by simp at hx; omega))⟩
end Go.Proofs.YtlnmbfddhdjioaaGreat
