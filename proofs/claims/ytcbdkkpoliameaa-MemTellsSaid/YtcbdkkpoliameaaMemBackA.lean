/-
  MemBack, walked.
-/
import Derived.Test.YtcbdkkpoliameaaMemMath
namespace Go.Proofs.Ytcbdkkpoliameaa
open Go.RowKit
set_option linter.unusedVariables false

theorem run_min9 (w : World) (ts : Array TypeId) (t : TypeId) (a b : Int) (n : Nat) (hn : (n : Int) = min a b) :
    (Builtin.min_ ts t #[.int .i64 a, .int .i64 b]).run Try.prog w = .ok (.int .i64 (n : Int)) w := by
  rw [run_min_int2, hn]
  congr 2
  rw [Int.min_def]
  split <;> split <;> omega

set_option maxRecDepth 100000 in
set_option maxHeartbeats 1000000 in
theorem MemBack_any (w : World) (cells : Nat) (hc0 : cells < 256) (v : Value) (win : List UInt8) (Mw : Nat) (h : Reads w v win Mw) (hl : win.length ≤ maxLen) (pv : Value) (np : Nat) (hp : Pairs w pv np) (A x : Nat) (a1 : A < 4294967296) (x1 : x < 4294967296) :
    Calls Try.prog 4 #[.int .u8 cells, v, pv, .int .u32 A, .int .u32 x] w fun e w' => e = .returned (.bool true) ∧ Keeps [] w w' := by
  have hml : maxLen = 9223372036854775807 := rfl
  obtain ⟨N0, hN0⟩ : ∃ N0, N0 = cells % 64 := ⟨_, rfl⟩
  obtain ⟨n, hn⟩ : ∃ n, n = 4 + 4 * N0 := ⟨_, rfl⟩
  have eN : (cells : Int) % 64 = (N0 : Int) := by omega
  have eN1 : (4 : Int) + 4 * (N0 : Int) = (n : Int) := by omega
  have bN : N0 < 64 := by omega
  obtain ⟨a, cap, rfl, hcap⟩ := h.shape
  obtain ⟨k, hk⟩ : ∃ k, k = min win.length 300 := ⟨_, rfl⟩
  have hmn := fun w ts t => run_min9 w ts t (win.length : Int) 300 k (by omega)
  obtain ⟨pa, pc, hcutW, hrW⟩ := h.head k (by omega)
  have htk : (win.take k).length = k := by simp; omega
  rw [htk] at hcutW hrW
  have HRW := Lib.hid hrW
  have HTK := Lib.hid htk
  have bk : k ≤ 300 ∧ k ≤ win.length := by omega
  obtain ⟨ap, cp, rfl, hpc, hpm, hcell⟩ := hp.shape
  obtain ⟨K, hK⟩ : ∃ K, K = min np 30 := ⟨_, rfl⟩
  have hmn2 := fun w ts t => run_min9 w ts t (np : Int) 30 K (by omega)
  have hcutP := fun w => run_cutP w ap np cp K (by omega)
  have HCELL := Lib.hid hcell
  have HKN := Lib.hid (show K ≤ np ∧ K ≤ 30 from by omega)
  have hK30 : K ≤ 30 := by omega
  obtain ⟨bk1, bk2⟩ := bk
  have hn4 : 4 ≤ n ∧ n ≤ 256 ∧ n % 4 = 0 := by omega
  obtain ⟨n4, n2, nm⟩ := hn4
  have HNM := Lib.hid nm
  clear hN0 hn hk hrW htk hcell hK h hp nm
  generalize win.take k = win' at *
  generalize win.length = wl at *
  obtain ⟨Ai, hAi⟩ : ∃ Ai : Int, Ai = A := ⟨_, rfl⟩
  rw [← hAi]
  have HAI := Lib.hid hAi
  have ai0 : 0 ≤ Ai := by omega
  have ai1 : Ai < 4294967296 := by omega
  have HA1 := Lib.hid a1
  clear hAi a1
  go_enter Try.func4, Try.ntmps4
  go_wp2_with (first | (go_at_call 9; refine (New_my w _ (Keeps.refl _ _) (n : Int) n rfl n4 (by omega) HNM.out _ win' Mw HRW.out (by rw [HTK.out]; omega)).mono ?_; rintro e w1 ⟨g, rb, rfl, hs, hk⟩; have HS := Lib.hid hs; clear hs hk) | fail)
  go_loopw [15, 49] (fun _ i wr => ∃ (j : Nat) (R : List UInt8), j ≤ K ∧ i = .int .i64 j ∧ Hid (R.length = n) ∧ Hid (MyMem w wr g rb win' R)) (fun _ i _ => K - (intOf i).toNat)
  case atStart => exact ⟨0, List.replicate n 0, by omega, rfl, Lib.hid (by simp), HS⟩
  case round =>
    obtain ⟨j, R, hj, rfl, hR, hm⟩ := hrel
    clear HS
    by_cases hlt : j < K
    · have hji : (j : Int) < K := by omega
      obtain ⟨bP, oP, hap, hall⟩ := HCELL.out (by have := HKN.out; omega)
      obtain ⟨y, z, hy, hz, c0, c1⟩ := hall j (by have := HKN.out; omega)
      subst hap
      have q0 := hm.out.kept.cell c0 (by simp)
      have q1 := hm.out.kept.cell c1 (by simp)
      clear c0 c1 hall
      obtain ⟨r, hr⟩ : ∃ r, r = y % n := ⟨_, rfl⟩
      obtain ⟨q, hq⟩ : ∃ q, q = r / 4 := ⟨_, rfl⟩
      obtain ⟨Q, hQ⟩ : ∃ Q, Q = 1048576 + q * 4 := ⟨_, rfl⟩
      have e1 : (y : Int) % (n : Int) = (r : Int) := by rw [hr]; rfl
      have e2 : (r : Int) / 4 = (q : Int) := by omega
      have e3 : (1048576 : Int) + (q : Int) * 4 = (Q : Int) := by omega
      have hnz : ¬ n = 0 := by omega
      have hw1 : IntKind.u32.wrap (n : Int) = (n : Int) := by simp [IntKind.wrap, IntKind.signed, IntKind.bits]; omega
      have e1t : (y : Int).tmod (n : Int) = (r : Int) := by rw [hr]; rfl
      have e2t : (r : Int).tdiv 4 = (q : Int) := by rw [hq]; rfl
      have hr2 : r < n := by rw [hr]; exact Nat.mod_lt _ (by omega)
      have hq2 : q < 64 := by omega
      have hQ2 : Q < 2000000 := by omega
      have hw2 : IntKind.u32.wrap ((q : Int) * 4) = (q : Int) * 4 := by simp [IntKind.wrap, IntKind.signed, IntKind.bits]; omega
      have hw3 : IntKind.u32.wrap (Q : Int) = (Q : Int) := by simp [IntKind.wrap, IntKind.signed, IntKind.bits]; omega
      clear hr hq hQ
      go_upto_region 8 with fail
      generalize hV : World.alloc wr _ = V
      have kV : Keeps [] wr V := by rw [← hV]; exact Keeps.alloc [] _ _
      have wP : Whole V wr.heap.size 50 [.int .u32 y, .int .u32 z] := by rw [← hV]; exact Whole.new wr 50 [.int .u32 y, .int .u32 z]
      have HMV := Lib.hid (hm.out.next kV)
      have wP0 := wP
      have p0 := wP0.cell 0
      have p1 := wP0.cell 1
      simp only [List.getElem?_cons_zero, List.getElem?_cons_succ] at p0 p1
      clear hV wP wP0 q0 q1 kV
      generalize wr.heap.size = O at *
      refine wp_region_tail 11 (by kernel_rfl) (by kernel_rfl) ?_
      intro wz hwz
      have kz : Keeps [] V wz := by rw [hwz]; exact Keeps.drew _ _
      have p0 := kz.cell p0 (by simp)
      have p1 := kz.cell p1 (by simp)
      have HMZ := Lib.hid (HMV.out.next kz)
      clear kz hwz HMV
      simp only [List.take_succ_cons, List.take_zero, List.drop_succ_cons, List.drop_zero]
      repeat still_step
      refine wpStill_nil ?_
      go_wp2_with (go_at_call 11; refine (Store_my HMZ.out (1048576 + (q : Int) * 4) (z : Int) Q z e3 rfl (by omega) hz _ _ rfl rfl).mono ?_; rintro e w2 ⟨rfl, h2, _⟩; have HM2 := Lib.hid h2; clear h2)
      go_roundw
      case rel => exact ⟨j + 1, _, by omega, by go_num, Lib.hid (by rw [storeL_length]; exact hR.out), HM2⟩
      case measure => simp [intOf]; omega
    · obtain rfl : j = K := by omega
      have HM := Lib.hid hm.out
      clear HCELL hm
      go_upto_region 13 with (first
        | (go_at_call 10; refine (Ram_my HM.out).mono ?_; rintro e w3 ⟨a3, c3, M3, rfl, hr3, m3, m3', hk3⟩; have HR3 := Lib.hid hr3; have HM3 := Lib.hid (HM.out.next hk3); have HB3 := Lib.hid (show rb ≠ M3 from by have := HM.out.ram_new.2; omega); clear hr3 hk3)
        | (go_at_call 11; refine (Store_my HM3.out Ai (x : Int) A x HAI.out rfl HA1.out x1 _ _ rfl rfl).mono ?_; rintro e w4 ⟨rfl, h4, hk4⟩; have HM4 := Lib.hid h4; have HR4 := Lib.hid (HR3.out.keeps hk4 (by simp; exact fun e => HB3.out e.symm)); clear h4 hk4)
        | (go_at_call 10; refine (Ram_my HM4.out).mono ?_; rintro e w5 ⟨a5, c5, M5, rfl, hr5, m5, m5', hk5⟩; have HR5 := Lib.hid hr5; have HR45 := Lib.hid (HR4.out.keeps hk5 (by simp)); have HM5 := Lib.hid (HM4.out.next hk5); clear hr5 hk5))
      have HRL := Lib.hid hR.out
      rcases store_split win' R A x n hR.out (by have := HTK.out; omega) x1 with ⟨k0, R', hst, hsl, hlen, hA1, hk0, hA4, hA2, hg, hl1, hl2⟩ | ⟨hst, hsl⟩
      · rw [hst]
        rw [hsl] at HR5 HM5 ⊢
        have HL := Lib.hid (And.intro hl1 hl2)
        have HG := Lib.hid hg
        have HRL' := Lib.hid hlen
        rw [← HAI.out] at hA1 hA2 hA4
        have hk0i : ¬ (n : Int) - 4 < (k0 : Int) := by omega
        rw [hlen] at HR5 ⊢
        rw [HRL.out] at HR3 HR45 ⊢
        clear hg hl1 hl2 hlen hsl hst HM4 HR4 HM3 HR3 HM
        obtain ⟨o3, _, hv3, _, hc3⟩ := HR45.out.at (by intro e; have := HRL.out; rw [e] at this; simp at this; omega)
        injection hv3 with hv3 _ _
        subst hv3
        obtain ⟨o5, _, hv5, _, hc5⟩ := HR5.out.at (by intro e; have := HRL'.out; rw [e] at this; simp at this; omega)
        injection hv5 with hv5 _ _
        subst hv5
        have HC3 := Lib.hid hc3
        have HC5 := Lib.hid hc5
        clear hc3 hc5
        go_wp2_with (first
          | (go_at_call 21; refine (Load_my HM5.out Ai A HAI.out HA1.out (x : Int) 0 (by rw [HL.out.1]) HL.out.2).mono ?_; rintro e w6 ⟨rfl, hk6⟩; have HM6 := Lib.hid (HM5.out.next hk6); have HK6 := Lib.hid hk6; clear hk6)
          | fail)
        go_loopw [21, 22, 23, 24, 25, 116] (fun _ _ _ _ _ ix wr => ∃ i : Nat, i ≤ n ∧ ix = .int .i64 i ∧ Hid (MyMem w wr g rb win' R') ∧ Hid (Keeps [] w6 wr)) (fun _ _ _ _ _ ix _ => n - (intOf ix).toNat)
        case atStart => exact ⟨0, by omega, rfl, HM6, Lib.hid (Keeps.refl _ _)⟩
        case round =>
          obtain ⟨i, hi, rfl, hm, hkw⟩ := hrel
          by_cases hlt : i < n
          · have hij : (i : Int) < n := by omega
            have HKW := Lib.hid (HK6.out.trans hkw.out)
            by_cases hout : k0 ≤ i ∧ i < k0 + 4
            · obtain ⟨b0, hb0⟩ : ∃ c, R[i]? = some c := ⟨_, List.getElem?_eq_getElem (by have := HRL.out; omega)⟩
              obtain ⟨z, hz⟩ : ∃ z : Int, z = b0.toNat := ⟨_, rfl⟩
              have q3 : wr.cell? ⟨M3, o3 + i, none⟩ = some (.int .u8 z) := by rw [hz]; exact HKW.out.cell (HC3.out i b0 hb0) (by simp)
              clear hz hb0
              rcases (by omega : i - k0 = 0 ∨ i - k0 = 1 ∨ i - k0 = 2 ∨ i - k0 = 3) with hd | hd | hd | hd
              · have hgy : R'[i]? = some (UInt8.ofNat x) := by rw [HG.out, if_pos hout, show i - k0 = 0 by omega]; rfl
                obtain ⟨y, hy⟩ : ∃ y : Int, (x : Int) % 256 = y := ⟨_, rfl⟩
                have hby : bv (UInt8.ofNat x) = .int .u8 y := by rw [byte_cell]; congr 1 <;> omega
                have hbx : ((byteX win' R' (1048576 + i)).toNat : Int) = y := by
                  rw [byteX_ram (by have := HTK.out; omega) _ (by have := HRL'.out; omega), List.getD_eq_getElem?_getD, hgy, Option.getD_some]
                  unfold bv at hby
                  injection hby
                have q5 : wr.cell? ⟨M5, o5 + i, none⟩ = some (.int .u8 y) := by rw [← hby]; exact HKW.out.cell (HC5.out i _ hgy) (by simp)
                have HB := Lib.hid (Byte_my hm.out (1048576 + (i : Int)) (1048576 + i) (by omega) (by omega) y 0 hbx (tT_ram (by unfold inAt; have := HRL'.out; omega)))
                have hdi : (i : Int) - (k0 : Int) = 0 := by omega
                clear hbx hgy hby hout hd
                go_wp2_with (go_at_call 22; refine HB.out.mono ?_; rintro e w7 ⟨rfl, hk7⟩; replace q3 := hk7.cell q3 (by simp); replace q5 := hk7.cell q5 (by simp); have HM7 := Lib.hid (hm.out.next hk7); have HK7 := Lib.hid (hkw.out.trans hk7); clear hk7)
                go_roundw
                case rel => exact ⟨i + 1, by omega, by go_num, HM7, HK7⟩
                case measure => simp [intOf]; omega
              · have hgy : R'[i]? = some (UInt8.ofNat (x / 256)) := by rw [HG.out, if_pos hout, show i - k0 = 1 by omega]; rfl
                obtain ⟨y, hy⟩ : ∃ y : Int, (x : Int) / 256 % 256 = y := ⟨_, rfl⟩
                have hby : bv (UInt8.ofNat (x / 256)) = .int .u8 y := by rw [byte_cell]; congr 1 <;> omega
                have hbx : ((byteX win' R' (1048576 + i)).toNat : Int) = y := by
                  rw [byteX_ram (by have := HTK.out; omega) _ (by have := HRL'.out; omega), List.getD_eq_getElem?_getD, hgy, Option.getD_some]
                  unfold bv at hby
                  injection hby
                have q5 : wr.cell? ⟨M5, o5 + i, none⟩ = some (.int .u8 y) := by rw [← hby]; exact HKW.out.cell (HC5.out i _ hgy) (by simp)
                have HB := Lib.hid (Byte_my hm.out (1048576 + (i : Int)) (1048576 + i) (by omega) (by omega) y 0 hbx (tT_ram (by unfold inAt; have := HRL'.out; omega)))
                have hdi : (i : Int) - (k0 : Int) = 1 := by omega
                clear hbx hgy hby hout hd
                go_wp2_with (go_at_call 22; refine HB.out.mono ?_; rintro e w7 ⟨rfl, hk7⟩; replace q3 := hk7.cell q3 (by simp); replace q5 := hk7.cell q5 (by simp); have HM7 := Lib.hid (hm.out.next hk7); have HK7 := Lib.hid (hkw.out.trans hk7); clear hk7)
                go_roundw
                case rel => exact ⟨i + 1, by omega, by go_num, HM7, HK7⟩
                case measure => simp [intOf]; omega
              · have hgy : R'[i]? = some (UInt8.ofNat (x / 65536)) := by rw [HG.out, if_pos hout, show i - k0 = 2 by omega]; rfl
                obtain ⟨y, hy⟩ : ∃ y : Int, (x : Int) / 65536 % 256 = y := ⟨_, rfl⟩
                have hby : bv (UInt8.ofNat (x / 65536)) = .int .u8 y := by rw [byte_cell]; congr 1 <;> omega
                have hbx : ((byteX win' R' (1048576 + i)).toNat : Int) = y := by
                  rw [byteX_ram (by have := HTK.out; omega) _ (by have := HRL'.out; omega), List.getD_eq_getElem?_getD, hgy, Option.getD_some]
                  unfold bv at hby
                  injection hby
                have q5 : wr.cell? ⟨M5, o5 + i, none⟩ = some (.int .u8 y) := by rw [← hby]; exact HKW.out.cell (HC5.out i _ hgy) (by simp)
                have HB := Lib.hid (Byte_my hm.out (1048576 + (i : Int)) (1048576 + i) (by omega) (by omega) y 0 hbx (tT_ram (by unfold inAt; have := HRL'.out; omega)))
                have hdi : (i : Int) - (k0 : Int) = 2 := by omega
                clear hbx hgy hby hout hd
                go_wp2_with (go_at_call 22; refine HB.out.mono ?_; rintro e w7 ⟨rfl, hk7⟩; replace q3 := hk7.cell q3 (by simp); replace q5 := hk7.cell q5 (by simp); have HM7 := Lib.hid (hm.out.next hk7); have HK7 := Lib.hid (hkw.out.trans hk7); clear hk7)
                go_roundw
                case rel => exact ⟨i + 1, by omega, by go_num, HM7, HK7⟩
                case measure => simp [intOf]; omega
              · have hgy : R'[i]? = some (UInt8.ofNat (x / 16777216)) := by rw [HG.out, if_pos hout, show i - k0 = 3 by omega]; rfl
                obtain ⟨y, hy⟩ : ∃ y : Int, (x : Int) / 16777216 = y := ⟨_, rfl⟩
                have hby : bv (UInt8.ofNat (x / 16777216)) = .int .u8 y := by rw [byte_cell]; congr 1 <;> omega
                have hbx : ((byteX win' R' (1048576 + i)).toNat : Int) = y := by
                  rw [byteX_ram (by have := HTK.out; omega) _ (by have := HRL'.out; omega), List.getD_eq_getElem?_getD, hgy, Option.getD_some]
                  unfold bv at hby
                  injection hby
                have q5 : wr.cell? ⟨M5, o5 + i, none⟩ = some (.int .u8 y) := by rw [← hby]; exact HKW.out.cell (HC5.out i _ hgy) (by simp)
                have HB := Lib.hid (Byte_my hm.out (1048576 + (i : Int)) (1048576 + i) (by omega) (by omega) y 0 hbx (tT_ram (by unfold inAt; have := HRL'.out; omega)))
                have hdi : (i : Int) - (k0 : Int) = 3 := by omega
                clear hbx hgy hby hout hd
                go_wp2_with (go_at_call 22; refine HB.out.mono ?_; rintro e w7 ⟨rfl, hk7⟩; replace q3 := hk7.cell q3 (by simp); replace q5 := hk7.cell q5 (by simp); have HM7 := Lib.hid (hm.out.next hk7); have HK7 := Lib.hid (hkw.out.trans hk7); clear hk7)
                go_roundw
                case rel => exact ⟨i + 1, by omega, by go_num, HM7, HK7⟩
                case measure => simp [intOf]; omega
            · obtain ⟨c, hc⟩ : ∃ c, R[i]? = some c := ⟨_, List.getElem?_eq_getElem (by have := HRL.out; omega)⟩
              have hgy : R'[i]? = some c := by rw [HG.out, if_neg hout, hc]
              obtain ⟨y, hy⟩ : ∃ y : Int, y = c.toNat := ⟨_, rfl⟩
              have hbx : ((byteX win' R' (1048576 + i)).toNat : Int) = y := by
                rw [byteX_ram (by have := HTK.out; omega) _ (by have := HRL'.out; omega), List.getD_eq_getElem?_getD, hgy, hy]
                rfl
              have q5 : wr.cell? ⟨M5, o5 + i, none⟩ = some (.int .u8 y) := by rw [hy]; exact HKW.out.cell (HC5.out i c hgy) (by simp)
              have q3 : wr.cell? ⟨M3, o3 + i, none⟩ = some (.int .u8 y) := by rw [hy]; exact HKW.out.cell (HC3.out i c hc) (by simp)
              have HB := Lib.hid (Byte_my hm.out (1048576 + (i : Int)) (1048576 + i) (by omega) (by omega) y 0 hbx (tT_ram (by unfold inAt; have := HRL'.out; omega)))
              clear hbx hgy hc hy
              obtain ⟨d, hd⟩ : ∃ d : Int, (i : Int) - (k0 : Int) = d := ⟨_, rfl⟩
              rcases (by omega : d < 0 ∨ (0 ≤ d ∧ ¬ d < 4)) with hd0 | ⟨hd0, hd4⟩
              · have hdb : -65536 ≤ d := by omega
                clear hout
                go_wp2_with (go_at_call 22; refine HB.out.mono ?_; rintro e w7 ⟨rfl, hk7⟩; replace q3 := hk7.cell q3 (by simp); replace q5 := hk7.cell q5 (by simp); have HM7 := Lib.hid (hm.out.next hk7); have HK7 := Lib.hid (hkw.out.trans hk7); clear hk7)
                go_roundw
                case rel => exact ⟨i + 1, by omega, by go_num, HM7, HK7⟩
                case measure => simp [intOf]; omega
              · have hdb : d ≤ 65536 := by omega
                clear hout
                go_wp2_with (go_at_call 22; refine HB.out.mono ?_; rintro e w7 ⟨rfl, hk7⟩; replace q3 := hk7.cell q3 (by simp); replace q5 := hk7.cell q5 (by simp); have HM7 := Lib.hid (hm.out.next hk7); have HK7 := Lib.hid (hkw.out.trans hk7); clear hk7)
                go_roundw
                case rel => exact ⟨i + 1, by omega, by go_num, HM7, HK7⟩
                case measure => simp [intOf]; omega
          · obtain rfl : i = n := by omega
            go_wp2_with (go_at_call 8; refine (awake9_any _).mono ?_; rintro e w8 ⟨rfl, hk8⟩; have HK8 := Lib.hid hk8; clear hk8)
            go_ret
            exact ⟨rfl, hm.out.kept.trans HK8.out⟩
      · rw [hsl] at HR5 HM5 ⊢
        have hcv1 := conv_reads HR45.out
        have hcv2 := conv_reads HR5.out
        generalize storeT win' R A = t at *
        rw [HRL.out] at hcv1 hcv2 ⊢
        have HTN := hst
        go_wp2_with (go_at_call 8; refine (awake9_any _).mono ?_; rintro e w6 ⟨rfl, hk6⟩; have HK6 := Lib.hid hk6; clear hk6)
        go_ret
        exact ⟨rfl, HM5.out.kept.trans HK6.out⟩
theorem MemBack_all (w : World) (cells : Int) (hc0 : 0 ≤ cells ∧ cells ≤ 255) (v : Value) (win : List UInt8) (Mw : Nat) (h : Reads w v win Mw) (hl : win.length ≤ maxLen) (pv : Value) (np : Nat) (hp : Pairs w pv np) (A x : Int) (a1 : 0 ≤ A ∧ A < 4294967296) (x1 : 0 ≤ x ∧ x < 4294967296) :
    Calls Try.prog 4 #[.int .u8 cells, v, pv, .int .u32 A, .int .u32 x] w fun e w' => e = .returned (.bool true) ∧ Keeps [] w w' := by
  obtain ⟨c, rfl⟩ := Int.eq_ofNat_of_zero_le hc0.1
  obtain ⟨a, rfl⟩ := Int.eq_ofNat_of_zero_le a1.1
  obtain ⟨y, rfl⟩ := Int.eq_ofNat_of_zero_le x1.1
  exact MemBack_any w c (by omega) v win Mw h hl pv np hp a y (by omega) (by omega)
end Go.Proofs.Ytcbdkkpoliameaa
