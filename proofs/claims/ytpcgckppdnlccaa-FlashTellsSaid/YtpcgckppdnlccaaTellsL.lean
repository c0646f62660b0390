/-
  FlashTells, walked: the operations, one by one.
-/
import Derived.Test.YtpcgckppdnlccaaTellsK
import Derived.Deep.RegionWith
namespace Go.Proofs.Ytpcgckppdnlccaa
open Go.RowKit Go.Deep

theorem bits_flip8 (x : UInt8) : bits .xor .u8 (x.toNat : Int) 255 = ((x ^^^ 255).toNat : Int) := by
  unfold bits
  show IntKind.u8.wrap ((BitVec.ofInt 8 (x.toNat : Int) ^^^ BitVec.ofInt 8 255).toNat : Int) = _
  have e : BitVec.ofInt 8 (x.toNat : Int) = x.toBitVec := by rw [BitVec.ofInt_natCast, ← UInt8.toNat_toBitVec, BitVec.ofNat_toNat, BitVec.setWidth_eq]
  rw [e, show BitVec.ofInt 8 255 = (255 : UInt8).toBitVec from rfl, ← UInt8.toBitVec_xor]
  have : (x ^^^ 255).toBitVec.toNat < 256 := (x ^^^ 255).toBitVec.isLt
  rw [IntWalk.u8_in _ (by omega)]
  rfl

set_option maxRecDepth 100000 in
set_option maxHeartbeats 30000000 in
theorem FlashTells_some (w : World) (ad : Option Addr) (n cap : Nat) (ps : List OpD) (h8 : 8 ≤ n) (h12 : n ≤ 12) (hcap : ps.length ≤ cap) (hm : cap ≤ maxLen)
    (hp : ∀ i p, ps[i]? = some p → ∃ b off, ad = some ⟨b, off, none⟩ ∧ p.ok w w.heap.size ∧ OpCells w ⟨b, off, none⟩ i p) :
    Calls Try.prog 3 #[.int .i64 n, .slice ad ps.length cap] w fun e w' => e = .returned (.bool true) ∧ Keeps [] w w' := by
  unfold maxLen at hm
  have d12 : decide ((12 : Int) < (n : Int)) = false := by apply decide_eq_false; omega
  have HP := Lib.hid hp
  have hpl : ps.length ≤ 9223372036854775807 := by omega
  clear hp hcap hm
  go_enter Try.func3, Try.ntmps3
  go_wp2_with fail
  refine (New_ok _ n h8 (by omega)).mono ?_
  rintro e w1 ⟨F, B, W, M0, rfl, gF, gB, gW, hF1, k1⟩
  have HF1 := Lib.hid hF1
  have K1 := Lib.hid k1
  clear hF1 k1
  go_wp2_with fail
  refine (RNew_ok _ n h8 (by omega)).mono ?_
  rintro e w2 ⟨R, C, V, N0, rfl, gR, gC, gV, gN, hR2, k2⟩
  obtain ⟨M1, hB⟩ := both_new HF1.out k2 hR2 gR gC gV gN
  have HB := Lib.hid hB
  have K2 := Lib.hid (K1.out.trans k2)
  have gw := K1.out.size
  clear hR2 k2 hB HF1
  go_wp2
  go_loopw [9] (fun i wr => ∃ (k : Nat) (s : FS) (M N : Nat) (ms : List UInt8), k ≤ 40 ∧ i = .int .i64 k ∧ Both wr F B W M R C V N s ms ∧ Hid (WearB s k) ∧ Hid (s.wear.length = n) ∧ Keeps [] w wr) (fun i _ => 40 - (intOf i).toNat)
  case atStart => exact ⟨0, FS.new n, M1, N0, [], by omega, rfl, HB.out, Lib.hid (wear_new n), Lib.hid (by simp [FS.new]), K2.out⟩
  case round =>
    obtain ⟨k, s, M, N, ms, hk40, rfl, hB, hWB, hWL, kp⟩ := hrel
    have HB' := Lib.hid hB
    have KP := Lib.hid kp
    have zf := hB.f.lt
    have zr := hB.r.lt
    clear hB kp
    by_cases hlt : k < ps.length ∧ k < 40
    · obtain ⟨hl1, hl2⟩ := hlt
      have hl1' : (k : Int) < ps.length := by omega
      have hl2' : (k : Int) < 40 := by omega
      obtain ⟨b, off, rfl, ok, q0, q1, q2, q3⟩ := HP.out k ps[k] (List.getElem?_eq_getElem hl1)
      clear HP
      have ok1 := ok.keeps KP.out (by simp)
      have r0 := KP.out.cell q0 (by simp)
      have r1 := KP.out.cell q1 (by simp)
      have r2 := KP.out.cell q2 (by simp)
      have r3 := KP.out.cell q3 (by simp)
      rw [Addr.add_off] at r0 r1 r2 r3
      rw [← Nat.add_assoc] at r1 r2 r3
      generalize ps[k] = p at *
      obtain ⟨ao, cv, hv⟩ := (readsShape ok1.reads)
      rw [hv] at r3
      have HV := Lib.hid hv
      have HOK := Lib.hid ok1
      have hbb := ok1.len
      unfold maxLen at hbb
      have hbw : b < w.heap.size := World.block_lt_of_cell? w _ (by rw [Addr.add_off] at q0; exact q0)
      have hbn : b < wr.heap.size := World.block_lt_of_cell? wr _ r0
      have hbne : ¬ b = wr.heap.size := by omega
      clear ok ok1 q0 q1 q2 q3 hv
      by_cases h600 : p.b.length ≤ 600
      · go_wp2_with fail
        refine (Fresh_any _ _ p.b p.M (by have := HOK.out.reads; rw [HV.out] at this; exact this.keeps (Keeps.alloc [] _ _) (by simp)) (by omega)).mono ?_
        rintro e w3 ⟨bb, cb, rfl, gb, rb, k3⟩
        have RB := Lib.hid rb
        have K3 := Lib.hid k3
        obtain ⟨O, hO⟩ : ∃ O, O = wr.heap.size := ⟨_, rfl⟩
        have o0 : w3.heap[O]? = some (.cells #[.int .u8 p.d, .int .i64 p.a, .int .i64 p.n, .slice ao p.b.length cv] 33 (0, 0)) := by rw [hO]; exact k3.obj (heap_alloc_new wr _) (by simp)
        have c3 : w3.cell? ⟨O, 3, none⟩ = some (.slice ao p.b.length cv) := by rw [cell_of_row w3 O 3 _ _ _ o0]; rfl
        have f3 : w3.frozen? ⟨O, 3, none⟩ = false := by simp [World.frozen?, o0]
        have HO0 := Lib.hid o0
        have HOO := Lib.hid hO
        rw [← hO]
        clear rb k3 o0 hO
        go_wp2
        obtain ⟨W4, hW4⟩ : ∃ W4, W4 = w3.setCell ⟨O, 3, none⟩ (.slice (some ⟨bb, 0, none⟩) p.b.length cb) := ⟨_, rfl⟩
        have x : W4.heap[O]? = some (.cells (opCells p.d p.a p.n bb p.b.length cb) 33 (0, 0)) := by rw [hW4, heap_setCell_at w3 O 3 _ _ _ _ HO0.out]; rfl
        have x0 : W4.cell? ⟨O, 0, none⟩ = some (.int .u8 p.d) := by rw [cell_of_row W4 O 0 _ _ _ x]; rfl
        have x1 : W4.cell? ⟨O, 1, none⟩ = some (.int .i64 p.a) := by rw [cell_of_row W4 O 1 _ _ _ x]; rfl
        have x2 : W4.cell? ⟨O, 2, none⟩ = some (.int .i64 p.n) := by rw [cell_of_row W4 O 2 _ _ _ x]; rfl
        have x3 : W4.cell? ⟨O, 3, none⟩ = some (.slice (some ⟨bb, 0, none⟩) p.b.length cb) := by rw [cell_of_row W4 O 3 _ _ _ x]; rfl
        have kwr : Keeps [O] wr W4 := by rw [hW4]; exact (((Keeps.alloc [] wr _).trans K3.out).mono (by simp)).trans (Keeps.setCell _ (by simp) _)
        have zO : wr.heap.size ≤ O := Nat.le_of_eq HOO.out.symm
        have zO' : O ≤ wr.heap.size := Nat.le_of_eq HOO.out
        have zb : wr.heap.size < bb := by have := gb; simp at this; omega
        have x4 : W4.cell? ⟨b, off + k * 4 + 3, none⟩ = some (.slice ao p.b.length cv) := kwr.cell r3 (by simp; omega)
        obtain ⟨M4, N4, hB4, m1, m2, n1, n2⟩ := HB'.out.away O bb (by omega) (by omega)
        have HB4 := Lib.hid (hB4.keeps kwr (by simp; omega))
        have zw := KP.out.size
        have HA4 := Lib.hid (show Aside W4 F B W R C V bb cb p.b from { row := by rw [hW4]; exact RB.out.keeps (Keeps.setCell (S := [O]) _ (by simp) _) (by simp; omega), len := h600, nF := ⟨by omega, by omega, by omega⟩, nR := ⟨by omega, by omega, by omega⟩ })
        have HOK4 := Lib.hid (HOK.out.keeps kwr (by simp; omega))
        have KW4 := Lib.hid kwr
        have HW4 := Lib.hid hW4
        have zlt := KW4.out.size
        have zbb := HA4.out.row.lt
        have zo4 : O < W4.heap.size := World.block_lt_of_cell? W4 _ x0
        rw [← hW4]
        clear hW4 kwr hB4 x r0 r1 r2 r3 c3 f3
        have S0 := Lib.hid (show W4.cell? ⟨O, 0, none⟩ = some (.int .u8 p.d) ∧ W4.cell? ⟨O, 1, none⟩ = some (.int .i64 p.a) ∧ W4.cell? ⟨O, 2, none⟩ = some (.int .i64 p.n) ∧ W4.cell? ⟨O, 3, none⟩ = some (.slice (some ⟨bb, 0, none⟩) p.b.length cb) ∧ W4.cell? ⟨b, off + k * 4 + 3, none⟩ = some (.slice ao p.b.length cv) from ⟨x0, x1, x2, x3, x4⟩)
        go_region_with (first
          | (go_at_call 14; refine (answered_any W4.drew (HB4.out.keeps (Keeps.drew [] _) (by simp)) p.d p.a p.n bb cb p.b (HA4.out.keeps (Keeps.drew [] _) (by simp)) HOK4.out.d HOK4.out.a HOK4.out.n (fun x hx => by have := hWB.out x hx; omega)).mono ?_; rintro e w5 ⟨rfl, hex, kk⟩; obtain ⟨M5, N5, ms5, hB5, m5, n5⟩ := hex; have S2 := Lib.hid (show w5.cell? ⟨O, 0, none⟩ = some (.int .u8 p.d) ∧ w5.cell? ⟨O, 1, none⟩ = some (.int .i64 p.a) ∧ w5.cell? ⟨O, 2, none⟩ = some (.int .i64 p.n) ∧ w5.cell? ⟨O, 3, none⟩ = some (.slice (some ⟨bb, 0, none⟩) p.b.length cb) ∧ w5.cell? ⟨b, off + k * 4 + 3, none⟩ = some (.slice ao p.b.length cv) from ⟨kk.cell x0 (by simp; omega), kk.cell x1 (by simp; omega), kk.cell x2 (by simp; omega), kk.cell x3 (by simp; omega), kk.cell x4 (by simp; omega)⟩); have HB5 := Lib.hid hB5; have K5 := Lib.hid ((Keeps.drew [F, B, W, R, C, V] W4).trans kk); have HM5 := Lib.hid m5; have HN5 := Lib.hid n5; obtain ⟨cc, cw, mv, y0, y1, y2, y3, y4, _⟩ := hB5.r.cells; have z3 := S2.out.2.2.2.1; have z4 := S2.out.2.2.2.2; clear y0 y1 y2 y3 kk hB5 m5 n5)
          | (go_at_call 15; refine (Is_same w5 _ _ p.b bb p.M (HA4.out.row.reads.keeps K5.out (by simp; omega)) (by have := (HOK4.out.keeps K5.out (by simp; omega)).reads; rw [HV.out] at this; exact this)).mono ?_; rintro e w' ⟨rfl, rfl⟩)
          | (go_at_call 16; refine (Down_yes w5 HB5.out.f).mono ?_; rintro e w' ⟨rfl, rfl⟩))
        all_goals
          simp only [Act.put, List.getElem_toArray, List.getElem_cons_succ, List.getElem_cons_zero, List.setIfInBounds_toArray, List.set_cons_succ, List.set_cons_zero]
          have hM5 : M5 ≠ bb := by have := HM5.out; have e : W4.drew.heap.size = W4.heap.size := rfl; omega
          have hN5 : N5 ≠ bb := by have := HN5.out; have e : W4.drew.heap.size = W4.heap.size := rfl; omega
          have RW5 := Lib.hid (HA4.out.row.keeps K5.out (by simp; omega))
          have KW5 := Lib.hid ((KP.out.then KW4.out (fun x hx => .inr (by simp at hx; omega))).then K5.out (fun x hx => .inr (by simp at hx; omega)))
          clear x0 x1 x2 x3 x4 HM5 HN5 HB4 HA4 K5 KW4 HW4 S0 HOK4 y4 zlt z4
          obtain ⟨wo, rfl⟩ : ∃ wo : World, wo = wr := ⟨_, rfl⟩
          go_wp2
          go_loopw [98] (fun i wr => ∃ (j : Nat) (l' : List UInt8), j ≤ p.b.length ∧ i = .int .i64 j ∧ Hid (l'.length = p.b.length) ∧ Row wr bb 5 (l'.map bv) cb ∧ wr.cell? ⟨O, 3, none⟩ = some (.slice (some ⟨bb, 0, none⟩) p.b.length cb) ∧ Hid (Both wr F B W M5 R C V N5 (s.op p.d p.a p.b) ms5) ∧ Keeps [] w wr) (fun i _ => p.b.length - (intOf i).toNat)
          case atStart => exact ⟨0, p.b, Nat.zero_le _, rfl, Lib.hid rfl, RW5.out, z3, HB5, KW5.out⟩
          case round =>
            obtain ⟨j, l', hj, rfl, hll, rb, c3, hB6, k6⟩ := hrel
            have K6 := Lib.hid k6
            by_cases hjl : j < p.b.length
            · have hjl' : (j : Int) < p.b.length := by omega
              have ej : l'[j]? = some (l'.getD j 0) := by have := hll.out; simp [List.getD, List.getElem?_eq_getElem (show j < l'.length by omega)]
              have p0 := rb.cell j (v := bv (l'.getD j 0)) (by rw [List.getElem?_map, ej]; rfl)
              have fz := rb.frozen j
              have HS := Lib.hid (rb.set j (bv (l'.getD j 0 ^^^ 255)))
              have hx := bits_flip8 (l'.getD j 0)
              clear rb k6 ej z3
              generalize l'.getD j 0 = c at *
              generalize c ^^^ 255 = c' at *
              unfold bv at p0
              go_wp2
              go_roundw
              case rel =>
                have kb : Keeps [bb] wr (wr.setCell ⟨bb, j, none⟩ (bv c')) := Keeps.setCell _ (by simp) _
                refine ⟨j + 1, l'.set j c', by omega, by go_num, Lib.hid (by rw [List.length_set]; exact hll.out), ?_, kb.cell c3 (by simp; omega), Lib.hid (hB6.out.keeps kb (by simp; omega)), K6.out.then kb (fun x hx => .inr (by simp at hx; omega))⟩
                rw [List.map_set]
                exact HS.out
              case measure => simp [intOf]; omega
            · have hjn : ¬ ((j : Int) < p.b.length) := by omega
              clear rb k6 c3 z3
              go_wp2
              go_roundw
              case rel => exact ⟨k + 1, s.op p.d p.a p.b, M5, N5, ms5, by omega, by go_num, hB6.out, Lib.hid (hWB.out.op p.d p.a p.b).1, Lib.hid ((hWB.out.op p.d p.a p.b).2.trans hWL.out), K6.out⟩
              case measure => simp [intOf]; omega
      · have h600' : (600 : Int) < p.b.length := by omega
        go_wp2
        go_roundw
        case rel => exact ⟨k + 1, s, M, N, ms, by omega, by go_num, HB'.out.keeps (Keeps.alloc [] _ _) (by simp), Lib.hid (hWB.out.mono (by omega)), hWL, KP.out.trans (Keeps.alloc [] _ _)⟩
        case measure => simp [intOf]; omega
    · have hex : ¬ ((k : Int) < ps.length) ∨ ((k : Int) < ps.length ∧ decide ((k : Int) < 40) = false) := by
        by_cases h1 : k < ps.length
        · exact .inr ⟨by omega, by apply decide_eq_false; omega⟩
        · exact .inl (by omega)
      have hup : s.up.wear.length = n := hWL.out
      have hlen : s.up.bs.length = 256 * n := by have := HB'.out.f.len; rw [hWL.out] at this; exact this
      have HUP := Lib.hid hup
      have HLEN := Lib.hid hlen
      have HPART := Lib.hid (show s.up.part 0 ((n : Int) * 256) = s.up.bs by unfold FS.part; rw [show (0 : Int).toNat = 0 from rfl, List.drop_zero]; exact List.take_of_length_le (by omega))
      have HWU := Lib.hid (show WearB s.up k from hWB.out)
      have HHAS := Lib.hid (show s.up.has 0 ((n : Int) * 256) by unfold FS.has; omega)
      clear hup hlen hlt
      obtain ⟨wo, rfl⟩ : ∃ wo : World, wo = wr := ⟨_, rfl⟩
      rcases hex with hex | ⟨hex, hex2⟩
      all_goals
        go_wp2_with fail
        refine (Up_yes _ HB'.out.f).mono ?_
        rintro e w3 ⟨rfl, hf3, k3⟩
        have HF3 := Lib.hid hf3
        have K3 := Lib.hid k3
        have HR3 := Lib.hid (HB'.out.r.keeps k3 (by have := HB'.out.aF; simp; omega) (by have := HB'.out.aF; simp; omega) (by have := HB'.out.aF; simp; omega) (by have := HB'.out.aN; simp; omega))
        clear hf3 k3
        go_wp2_with fail
        refine (RUp_any _ HR3.out).mono ?_
        rintro e w4 ⟨rfl, hr4, k4⟩
        have HB4 := Lib.hid (show Both w4 F B W M R C V N s.up ms from { HB'.out with f := HF3.out.keeps k4 (by have := HB'.out.aF; simp; omega) (by have := HB'.out.aB; simp; omega) (by have := HB'.out.aW; simp; omega) (by have := HB'.out.aM; simp; omega), r := hr4 })
        have zw := KP.out.size
        have K4 := Lib.hid ((KP.out.then K3.out (fun x hx => .inr (by simp at hx; omega))).then k4 (fun x hx => .inr (by simp at hx; omega)))
        clear hr4 k4
        go_wp2_with fail
        refine (Read_ok _ HB4.out.f 0 ((n : Int) * 256) rfl HHAS.out).mono ?_
        rintro e w5 ⟨b5, c5, rfl, g5, r5, k5⟩
        have HB5 := Lib.hid (HB4.out.keeps k5 (by simp))
        have K5 := Lib.hid (K4.out.trans k5)
        have R5 := Lib.hid (show Reads w5 (.slice (some ⟨b5, 0, none⟩) ((n : Int) * 256).toNat c5) s.up.bs b5 by have := r5; rw [HPART.out] at this; exact this.readsLen (by have := HLEN.out; omega))
        obtain ⟨cc, cw, mv, y0, y1, y2, y3, y4, _, rC, rV, _⟩ := HB5.out.r.cells
        have RC := Lib.hid rC.reads
        have RV := Lib.hid rV
        rw [HUP.out] at y1
        clear r5 k5 y2 y3 y4 rC rV
        go_wp2_with fail
        refine (Is_same _ _ _ s.up.bs b5 C R5.out RC.out).mono ?_
        rintro e w' ⟨rfl, rfl⟩
        go_wp2_with fail
        refine (Sectors_yes _ HB5.out.f).mono ?_
        rintro e w' ⟨rfl, rfl⟩
        rw [HUP.out]
        go_wp2
        go_loopw [138] (fun i wr => ∃ j : Nat, j ≤ n ∧ i = .int .i64 j ∧ Hid (Both wr F B W M R C V N s.up ms) ∧ wr.cell? ⟨R, 1, none⟩ = some (.slice (some ⟨V, 0, none⟩) n cw) ∧ Row wr V 3 (s.up.wear.map (Value.int .i64)) cw ∧ Keeps [] w wr) (fun i _ => n - (intOf i).toNat)
        case atStart => exact ⟨0, Nat.zero_le _, rfl, HB5, y1, RV.out, K5.out⟩
        case round =>
          obtain ⟨j, hj, rfl, hB6, c1, rV, k6⟩ := hrel
          have K6 := Lib.hid k6
          have RV6 := Lib.hid rV
          by_cases hjn : j < n
          · have hjn' : (j : Int) < n := by omega
            have ej : s.up.wear[j]? = some (s.up.wear.getD j 0) := by have := HUP.out; simp [List.getD, List.getElem?_eq_getElem (show j < s.up.wear.length by omega)]
            have p0 := rV.cell j (v := .int .i64 (s.up.wear.getD j 0)) (by rw [List.getElem?_map, ej]; rfl)
            have CW := Lib.hid (fun w' (h : FlashAt w' F B W M s.up) => (Wear_yes w' h j _ ej).mono (R' := fun e v => e = .returned (.int .i64 (s.up.wear.getD j 0)) ∧ v = w') fun _ _ h => ⟨h.1, h.2.symm⟩)
            clear rV k6 y0 y1 ej
            generalize s.up.wear.getD j 0 = x at *
            go_wp2
            go_quiet ((go_at_call 21; exact Calls.quiet_of_same (CW.out _ (hB6.out.f.keeps (Keeps.drewN [] _ _) (by simp) (by simp) (by simp) (by simp)))))
            go_wp2
            go_roundw
            case rel => exact ⟨j + 1, by omega, by go_num, Lib.hid (hB6.out.keeps (Keeps.drewN [] _ _) (by simp)), c1, RV6.out.keeps (Keeps.drewN [] _ _) (by simp), K6.out.trans (Keeps.drewN [] _ _)⟩
            case measure => simp [intOf]; omega
          · have hjn' : ¬ ((j : Int) < n) := by omega
            clear rV k6 y0 y1 c1
            go_wp2_with fail
            refine (Wear_out _ hB6.out.f (-1) (by omega)).mono ?_
            rintro e w' ⟨rfl, rfl⟩
            go_wp2_with fail
            refine (Wear_out _ hB6.out.f (n : Int) (by have := HUP.out; omega)).mono ?_
            rintro e w' ⟨rfl, rfl⟩
            go_wp2_with fail
            refine (awake_any _).mono ?_
            rintro e w7 ⟨rfl, k7⟩
            have K7 := Lib.hid (K6.out.trans k7)
            clear k7
            go_wp2
            go_ret
            exact ⟨rfl, K7.out⟩

theorem OpsAt.places {w : World} {v : Value} {ps : List OpD} (h : OpsAt w w.heap.size v ps) : ∃ ad cap, v = .slice ad ps.length cap ∧ ps.length ≤ cap ∧ cap ≤ maxLen ∧
    ∀ i p, ps[i]? = some p → ∃ b off, ad = some ⟨b, off, none⟩ ∧ p.ok w w.heap.size ∧ OpCells w ⟨b, off, none⟩ i p := by
  rcases h with ⟨rfl, rfl⟩ | ⟨ad, cap, rfl, hcap, hm, hp⟩
  · exact ⟨none, 0, rfl, Nat.le_refl _, Nat.zero_le _, fun i p hi => by simp at hi⟩
  · refine ⟨some ad, cap, rfl, hcap, hm, fun i p hi => ?_⟩
    obtain ⟨b, off, spot⟩ := ad
    have h0 : 0 < ps.length := by have := (List.getElem?_eq_some_iff.1 hi).1; omega
    obtain ⟨_, _, c0, _⟩ := hp 0 ps[0] (List.getElem?_eq_getElem h0)
    have hs : spot = none := by
      cases spot with
      | none => rfl
      | some x =>
        exfalso
        simp only [Addr.add, Nat.zero_mul, if_true] at c0
        unfold World.cell? at c0
        split at c0
        · simp at c0
        · cases c0
    subst hs
    obtain ⟨ok, _, q⟩ := hp i p hi
    exact ⟨b, off, rfl, ok, q⟩

theorem FlashTells_any (w : World) (n : Int) (v : Value) (ps : List OpD) (h : OpsAt w w.heap.size v ps) :
    Calls Try.prog 3 #[.int .i64 n, v] w fun e w' => e = .returned (.bool true) ∧ Keeps [] w w' := by
  by_cases h1 : 12 < n ∧ n ≤ 256
  · exact FlashTells_aside w n v h1.1 h1.2
  · by_cases h2 : n < 8 ∨ 256 < n
    · exact FlashTells_bad w n v h2
    · obtain ⟨k, rfl⟩ := Int.eq_ofNat_of_zero_le (show 0 ≤ n by omega)
      obtain ⟨ad, cap, rfl, hc, hm, hp⟩ := h.places
      exact FlashTells_some w ad k cap ps (by omega) (by omega) hc hm hp
end Go.Proofs.Ytpcgckppdnlccaa
