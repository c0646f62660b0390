/-
  PlainWhole, walked.
-/
import Derived.Test.YtfnjjanknfmibaaGreatPlFineD
import Derived.Test.YtfnjjanknfmibaaGreatPlAw
namespace Go.Proofs.YtfnjjanknfmibaaGreat
open Go.RowKit
set_option linter.unusedVariables false

theorem cells_alike (w : World) (va vb : Value) (l : List (BitVec 32)) (Ma oa Mb ob : Nat) (ha : UReads w va l Ma oa) (hb : UReads w vb l Mb ob) (hl : l.length ≤ maxLen) :
    Calls Tryz.prog 9 #[va, vb] w fun e w' => e = .returned (.bool true) ∧ Keeps [] w w' := by
  have h := cells12_any w va vb l l Ma oa Mb ob ha hb hl
  rwa [decide_eq_true rfl] at h

set_option maxRecDepth 100000 in
set_option maxHeartbeats 4000000 in
theorem PlainWhole_prim (w : World) (room : Nat) (hroom : room < 256) (sv rv wv : Value) (s r : List (BitVec 32)) (win : List UInt8) (Ms os Mr or Mw : Nat) (hs : UReads w sv s Ms os) (hr : UReads w rv r Mr or) (hw : Reads w wv win Mw)
    (ls : s.length ≤ maxLen) (lr : r.length ≤ maxLen) (lw : win.length ≤ maxLen) (i : Nat) (hi : i < 73) (n : Nat) (hn : n = i + 1) :
    Calls Tryz.prog 3 #[.int .u8 (room : Int), sv, rv, wv, .int .u32 (n : Int)] w fun e w' => e = .returned (.bool true) ∧ Keeps [] w w' := by
  obtain ⟨RI, hRI⟩ : ∃ RI : Int, RI = 1 + (room : Int) % 40 := ⟨_, rfl⟩
  obtain ⟨sa, sc, rfl, hsc⟩ := hs.shape
  obtain ⟨ra, rc, rfl, hrc⟩ := hr.shape
  obtain ⟨wa, wc, rfl⟩ : ∃ wa wc, wv = .slice wa win.length wc := by
    obtain ⟨a, c, e, _⟩ := hw.shape
    exact ⟨a, c, e⟩
  have HB := Lib.hid (Begun_any w RI (by omega) (by omega) _ _ _ s r win Ms os Mr or Mw hs hr hw ls lr lw)
  obtain ⟨nw, hnw⟩ : ∃ nw, nw = min win.length 40 := ⟨_, rfl⟩
  have hmW := fun w ts t => run_min2 w ts t (win.length : Int) 40 nw (by omega)
  have eW : (win.take nw).length = nw := by simp; omega
  rw [← hnw] at HB
  have HEW := Lib.hid eW
  have HNW := Lib.hid hnw
  have hml : maxLen = 9223372036854775807 := rfl
  have HN := Lib.hid hn
  have hn1 : 1 ≤ n := by omega
  have hn73 : n ≤ 73 := by omega
  clear hn
  clear hs hr hw hsc hrc hnw eW
  generalize s.take (min s.length RI.toNat) = s' at *
  generalize r.take (min r.length RI.toNat) = r' at *
  generalize win.take nw = win' at *
  generalize s.length = ls' at *
  generalize r.length = lr' at *
  generalize win.length = lw' at *
  have HRI := Lib.hid hRI
  have eRI : 1 + (room : Int) % 40 = RI := hRI.symm
  clear hRI
  have HA3 := Lib.hid (fun (U : World) (gs gr gm : Nat) (X : World) (hk : Keeps [] (U.alloc (.cells #[.pointer (some ⟨gs, 0, none⟩), .pointer (some ⟨gr, 0, none⟩), .pointer (some ⟨gm, 0, none⟩)] 28)) X) => (⟨hk.cell (cell_alloc_new U _ _ 0) (by simp), hk.cell (cell_alloc_new U _ _ 1) (by simp), hk.cell (cell_alloc_new U _ _ 2) (by simp)⟩ : X.cell? ⟨U.heap.size, 0, none⟩ = some (.pointer (some ⟨gs, 0, none⟩)) ∧ X.cell? ⟨U.heap.size, 1, none⟩ = some (.pointer (some ⟨gr, 0, none⟩)) ∧ X.cell? ⟨U.heap.size, 2, none⟩ = some (.pointer (some ⟨gm, 0, none⟩))))
  go_enter Tryz.func3, Tryz.ntmps3
  go_upto_region 4 with (go_at_call 4; refine HB.out.mono ?_; rintro e w1 ⟨gs, gr, gm, κ, rfl, hl1, hk1⟩; have HL1 := Lib.hid hl1; have K1 := Lib.hid hk1; clear hl1 hk1)
  have HLV := Lib.hid (HL1.out.next (Keeps.alloc [] w1 (.cells #[.pointer (some ⟨gs, 0, none⟩), .pointer (some ⟨gr, 0, none⟩), .pointer (some ⟨gm, 0, none⟩)] 28)))
  have HZ := Lib.hid (HL1.out.newer (x := w1.heap.size) (Nat.le_refl _))
  have KV := Lib.hid (K1.out.trans (Keeps.alloc [] w1 (.cells #[.pointer (some ⟨gs, 0, none⟩), .pointer (some ⟨gr, 0, none⟩), .pointer (some ⟨gm, 0, none⟩)] 28)))
  have HB3 := Lib.hid (HA3.out w1 gs gr gm)
  have hb : w1.heap.size < (w1.alloc (.cells #[.pointer (some ⟨gs, 0, none⟩), .pointer (some ⟨gr, 0, none⟩), .pointer (some ⟨gm, 0, none⟩)] 28)).heap.size := by simp
  generalize hV : w1.alloc (.cells #[.pointer (some ⟨gs, 0, none⟩), .pointer (some ⟨gr, 0, none⟩), .pointer (some ⟨gm, 0, none⟩)] 28) = V at *
  have HV := Lib.hid hV
  clear hV HA3 HB
  generalize w1.heap.size = B at *
  have b0 := fun X hk => (HB3.out X hk).1
  have b1 := fun X hk => (HB3.out X hk).2.1
  have b2 := fun X hk => (HB3.out X hk).2.2
  have HAS := Lib.hid (fun W (hk : Keeps [] V W) => All_lab (HLV.out.next hk))
  have HAR := Lib.hid (fun W (hk : Keeps [] V W) => AllR_lab (HLV.out.next hk))
  have HRM := Lib.hid (fun W (hk : Keeps [] V W) => Ram_lab (HLV.out.next hk))
  go_region_held3 (fun W' => Keeps [] V W') (first | assumption | exact Keeps.refl [] _ | exact Keeps.drew [] _ | exact Keeps.trans (by assumption) (by assumption) | exact (Keeps.drew [] _).trans (by assumption)) (first
    | (go_at_call_of 5 (#[Value.pointer (some ⟨gs, 0, none⟩)]); refine (HAS.out _ (by first | assumption | exact Keeps.refl [] _ | exact Keeps.drew [] _ | exact Keeps.trans (by assumption) (by assumption) | exact (Keeps.drew [] _).trans (by assumption))).mono ?_; rintro e wS ⟨aS, cS, MS, rfl, uS, bS, hkS⟩)
    | (go_at_call_of 5 (#[Value.pointer (some ⟨gr, 0, none⟩)]); refine (HAR.out _ (by first | assumption | exact Keeps.refl [] _ | exact Keeps.drew [] _ | exact Keeps.trans (by assumption) (by assumption) | exact (Keeps.drew [] _).trans (by assumption))).mono ?_; rintro e wR ⟨aR, cR, MR, rfl, uR, bR, hkR⟩)
    | (go_at_call 6; refine (HRM.out _ (by first | assumption | exact Keeps.refl [] _ | exact Keeps.drew [] _ | exact Keeps.trans (by assumption) (by assumption) | exact (Keeps.drew [] _).trans (by assumption))).mono ?_; rintro e wM ⟨aM, cM, MM, rfl, uM, bM, bM2, hkM⟩))
  have kM : Keeps [] V wM := by assumption
  have KM := Lib.hid kM
  have US := Lib.hid ((uS.keeps hkR (by simp)).keeps hkM (by simp))
  have UR := Lib.hid (uR.keeps hkM (by simp))
  have UM := Lib.hid uM
  have NS := Lib.hid (show s' ≠ [] → κ MS = 0 from fun h => HLV.out.newer (Nat.le_trans (by simp) (bS h).1))
  have NR := Lib.hid (show r' ≠ [] → κ MR = 0 from fun h => HLV.out.newer (Nat.le_trans (Nat.le_trans (by simp) hkS.size) (bR h).1))
  have NM := Lib.hid (show κ MM = 0 from HLV.out.newer (Nat.le_trans (Nat.le_trans (Nat.le_trans (by simp) hkS.size) hkR.size) bM))
  clear uS uR uM bS bR bM bM2 hkS hkR hkM HAS HAR HRM
  have h40 : nw ≤ 40 := by have := HNW.out; omega
  have HSH := Lib.hid (fun ram => shown_win win' ram)
  rw [HEW.out] at HSH
  have HBY := Lib.hid (BytesM_lab (HLV.out.next KM.out) 4096 (nw : Int) 4096 nw rfl rfl (by decide) (by omega) win' 0 (HSH.out _).1 (HSH.out _).2)
  rw [HEW.out] at HBY
  replace b0 := b0 wM kM
  replace b1 := b1 wM kM
  replace b2 := b2 wM kM
  clear kM
  go_upto_region 6 with (go_at_call 7; refine HBY.out.mono ?_; rintro e wB ⟨aW, cW, MW, rfl, uW, bW, hkB⟩; have KB := Lib.hid hkB; have UW := Lib.hid uW; have BW := Lib.hid bW; clear uW bW hkB)
  have NW := Lib.hid (show win' ≠ [] → κ MW = 0 from fun h => HLV.out.newer (Nat.le_trans KM.out.size (BW.out h).1))
  have HLB := Lib.hid (HLV.out.next (KM.out.trans KB.out))
  have HDO := Lib.hid (Do_prim HLB.out i hi n HN.out)
  have HFI := Lib.hid (doP_fine RI win' i ⟨s', r', List.replicate 32 0⟩ hi (by rw [HEW.out]; omega))
  have HDN := Lib.hid (fun h => doP_done (room := RI) (win := win') (i := i) (x := ⟨s', r', List.replicate 32 0⟩) hi (by rw [HEW.out]; omega) h)
  have HHA := Lib.hid (fun (h5 : i = 5) (h : (doP RI win' i ⟨s', r', List.replicate 32 0⟩).1 = 0) => doP_has (room := RI) (win := win') (x := ⟨s', r', List.replicate 32 0⟩) (by rw [h5] at h; exact h))
  replace b0 := KB.out.cell b0 (by simp)
  replace b1 := KB.out.cell b1 (by simp)
  replace b2 := KB.out.cell b2 (by simp)
  clear HBY BW
  generalize hX : doP RI win' i ⟨s', r', List.replicate 32 0⟩ = X at *
  clear hX
  obtain ⟨t, s2, r2, ram2⟩ := X
  simp only [] at HDO HFI HDN HHA
  have HBX := Lib.hid (And.intro b0 (And.intro b1 b2))
  go_upto_region 7 with (go_at_call 8; refine HDO.out.mono ?_; rintro e wD ⟨κ2, rfl, hl2, hst⟩; have HLD := Lib.hid hl2; have ST := Lib.hid hst; clear hl2 hst)
  have b0 := ST.out.cell HBX.out.1 HZ.out
  have b1 := ST.out.cell HBX.out.2.1 HZ.out
  have b2 := ST.out.cell HBX.out.2.2 HZ.out
  have HBD := Lib.hid (And.intro b0 (And.intro b1 b2))
  clear b0 b1 b2 HDO HBX
  have US2 := Lib.hid (ST.out.ureads (US.out.keeps KB.out (by simp)) NS.out)
  have UR2 := Lib.hid (ST.out.ureads (UR.out.keeps KB.out (by simp)) NR.out)
  have UM2 := Lib.hid (ST.out.reads (UM.out.keeps KB.out (by simp)) (fun _ => NM.out))
  have UW2 := Lib.hid (ST.out.reads UW.out NW.out)
  clear US UR UM UW NS NR NM NW
  have b0 := fun X (hk : Keeps [] wD X) => hk.cell HBD.out.1 (by simp)
  have b1 := fun X (hk : Keeps [] wD X) => hk.cell HBD.out.2.1 (by simp)
  have b2 := fun X (hk : Keeps [] wD X) => hk.cell HBD.out.2.2 (by simp)
  have HAS := Lib.hid (fun W (hk : Keeps [] wD W) => All_lab (HLD.out.next hk))
  have HAR := Lib.hid (fun W (hk : Keeps [] wD W) => AllR_lab (HLD.out.next hk))
  have HRM := Lib.hid (fun W (hk : Keeps [] wD W) => Ram_lab (HLD.out.next hk))
  go_region_held3 (fun W' => Keeps [] wD W') (first | assumption | exact Keeps.refl [] _ | exact Keeps.drew [] _ | exact Keeps.trans (by assumption) (by assumption) | exact (Keeps.drew [] _).trans (by assumption)) (first
    | (go_at_call_of 5 (#[Value.pointer (some ⟨gs, 0, none⟩)]); refine (HAS.out _ (by first | assumption | exact Keeps.refl [] _ | exact Keeps.drew [] _ | exact Keeps.trans (by assumption) (by assumption) | exact (Keeps.drew [] _).trans (by assumption))).mono ?_; rintro e wS ⟨aS2, cS2, MS2, rfl, uS, bS, hkS⟩)
    | (go_at_call_of 5 (#[Value.pointer (some ⟨gr, 0, none⟩)]); refine (HAR.out _ (by first | assumption | exact Keeps.refl [] _ | exact Keeps.drew [] _ | exact Keeps.trans (by assumption) (by assumption) | exact (Keeps.drew [] _).trans (by assumption))).mono ?_; rintro e wR ⟨aR2, cR2, MR2, rfl, uR, bR, hkR⟩)
    | (go_at_call 6; refine (HRM.out _ (by first | assumption | exact Keeps.refl [] _ | exact Keeps.drew [] _ | exact Keeps.trans (by assumption) (by assumption) | exact (Keeps.drew [] _).trans (by assumption))).mono ?_; rintro e wX ⟨aM2, cM2, MM2, rfl, uM, bM, bM2, hkM⟩))
  have kX : Keeps [] wD wX := by assumption
  have KX := Lib.hid kX
  have VS := Lib.hid ((uS.keeps hkR (by simp)).keeps hkM (by simp))
  have VR := Lib.hid (uR.keeps hkM (by simp))
  have VM := Lib.hid uM
  clear uS uR uM bS bR bM bM2 hkS hkR hkM HAS HAR HRM
  have HBY := Lib.hid (BytesM_lab (HLD.out.next KX.out) 4096 (nw : Int) 4096 nw rfl rfl (by decide) (by omega) win' 0 (HSH.out _).1 (HSH.out _).2)
  rw [HEW.out] at HBY
  replace b0 := b0 wX kX
  replace b1 := b1 wX kX
  replace b2 := b2 wX kX
  clear kX
  go_upto_region 9 with (go_at_call 7; refine HBY.out.mono ?_; rintro e wY ⟨aV, cV, MV, rfl, uV, bV, hkY⟩; have KY := Lib.hid hkY; have UV := Lib.hid uV; clear uV bV hkY)
  have UW3 := Lib.hid (UW2.out.keeps (KX.out.trans KY.out) (by simp))
  have hcv1 := conv_reads UW3.out
  have hcv2 := conv_reads UV.out
  have q1 : decide ((n : Int) < 1) = false := decide_eq_false (by omega)
  have q2 : decide ((73 : Int) < (n : Int)) = false := decide_eq_false (by omega)
  have KWY := Lib.hid ((((KV.out.trans KM.out).trans KB.out)))
  have KWD := Lib.hid (HLD.out.kept)
  have YS := Lib.hid (US2.out.keeps (KX.out.trans KY.out) (by simp))
  have YR := Lib.hid (UR2.out.keeps (KX.out.trans KY.out) (by simp))
  have YM := Lib.hid (UM2.out.keeps (KX.out.trans KY.out) (by simp))
  have ZS := Lib.hid (VS.out.keeps KY.out (by simp))
  have ZR := Lib.hid (VR.out.keeps KY.out (by simp))
  have ZM := Lib.hid (VM.out.keeps KY.out (by simp))
  have KEND := Lib.hid ((KWD.out.trans KX.out).trans KY.out)
  have LR := Lib.hid HLD.out.lens
  clear US2 UR2 UM2 UW2 UW3 VS VR VM b0 b1 b2 HBD HBY
  by_cases ht : t = 0
  · subst ht
    have D := HDN.out rfl
    obtain ⟨hp1, hp2, hp3, hp4⟩ := prim73 i hi
    have HT := Lib.hid (tab73 i hi)
    have HGET := Lib.hid (fun W => Get_any W n)
    rw [HN.out, get73 i hi, ← HN.out] at HGET
    simp only [pOf, Option.getD_some, Option.isSome_some] at HGET
    rw [pmv_lit] at HGET
    have LL := LR.out
    have LS0 := Lib.hid HLB.out.lens
    have HHB := Lib.hid HHA.out
    unfold changeN at D
    have h5 : (primI i).name = [63, 68, 85, 80] → 1 ≤ s'.length := fun h => HHB.out (HT.out.1.1 h) rfl
    clear HDN HHA HHB HFI HT YR YM ZS ZR ZM UV hp1 hp4
    generalize primI i = p at *
    have hst : ∀ x : List UInt8, ((ByteArray.mk p.name.toArray).toList == x) = decide (p.name = x) := fun x => by
      rw [ByteArray.toList_mk]
      by_cases hx : p.name = x
      · rw [decide_eq_true hx, hx]; simp
      · rw [decide_eq_false hx]; simpa using hx
    have hg6 := hp3
    have ht6 := hp2
    generalize hnm : p.name = nm at *
    generalize hSt : ByteArray.mk nm.toArray = st at *
    generalize (p.num : Int) = a at *
    generalize p.takes = tk at *
    generalize p.gives = g at *
    generalize (p.ops : Int) = o at *
    generalize p.text = tx at *
    generalize p.jump = jp at *
    clear hnm hSt
    obtain ⟨D1, D2⟩ := D
    have y0 : s'.length ≤ 4096 := LS0.out.1
    have y1 : r'.length ≤ 4096 := LS0.out.2.2.1
    have y2 : s2.length ≤ 4096 := LL.1
    have y3 : r2.length ≤ 4096 := LL.2.2.1
    clear LL hp2 hp3
    obtain ⟨A, hA⟩ : ∃ A, A = s'.length := ⟨_, rfl⟩
    obtain ⟨A2, hA2⟩ : ∃ A2, A2 = s2.length := ⟨_, rfl⟩
    obtain ⟨C, hC⟩ : ∃ C, C = r'.length := ⟨_, rfl⟩
    obtain ⟨C2, hC2⟩ : ∃ C2, C2 = r2.length := ⟨_, rfl⟩
    rw [← hA] at D1 y0 h5
    rw [← hA2] at D1 y2
    rw [← hC] at D2 y1
    rw [← hC2] at D2 y3
    have YT := Lib.hid (show s' ≠ [] → ∃ ca, aS = some ⟨MS, 0, none⟩ ∧ ca = cS ∧ ∀ j u, s'[j]? = some u → wY.cell? ⟨MS, j, none⟩ = some (uv u) from fun h => by
      obtain ⟨c1, e1, _, h1⟩ := YS.out.cells h
      injection e1 with e1 _ e3
      exact ⟨cS, e1, rfl, fun j u hj => by have := h1 j u hj; simpa using this⟩)
    have HA := Lib.hid hA
    have HA2 := Lib.hid hA2
    rw [← hA, ← hA2, ← hC, ← hC2]
    clear hA hA2 hC hC2 YS
    have HB7 := Lib.hid (fun (U : World) => (Whole.new U 40 [.int .u32 a, .string st, .int .i64 (tk : Int), .int .i64 (g : Int), .int .i64 o, .bool tx, .bool jp]).prim)
    go_upto_region 14 with (go_at_call 11; refine (HGET.out _).mono ?_; rintro e w10 ⟨rfl, hk10⟩; have K10 := Lib.hid hk10; clear hk10)
    obtain ⟨p0, p1, p2, p3, p4, p5, p6⟩ := HB7.out w10
    have KZ := Lib.hid ((KEND.out.trans K10.out).trans (Keeps.alloc [] w10 (.cells #[.int .u32 a, .string st, .int .i64 (tk : Int), .int .i64 (g : Int), .int .i64 o, .bool tx, .bool jp] 40)))
    have KY2 := Lib.hid (K10.out.trans (Keeps.alloc [] w10 (.cells #[.int .u32 a, .string st, .int .i64 (tk : Int), .int .i64 (g : Int), .int .i64 o, .bool tx, .bool jp] 40)))
    by_cases h0 : nm = [63, 68, 85, 80]
    · -- ?DUP
      have s0 : (st.toList == [63, 68, 85, 80]) = true := by rw [hst]; exact decide_eq_true h0
      have s1 : (st.toList == [82, 79, 76, 76]) = false := by rw [hst]; exact decide_eq_false (by rw [h0]; decide)
      have s2q : (st.toList == [62, 82]) = false := by rw [hst]; exact decide_eq_false (by rw [h0]; decide)
      have s3 : (st.toList == [82, 62]) = false := by rw [hst]; exact decide_eq_false (by rw [h0]; decide)
      have hA1 := h5 h0
      have hne : s' ≠ [] := fun e => by have := HA.out; rw [e] at this; simp at this; omega
      obtain ⟨_, rfl, _, hce⟩ := YT.out hne
      have hpk := peek_top (s := s') (by have := HA.out; omega)
      have hlt : s'.length - 1 < s'.length := by have := HA.out; omega
      obtain ⟨T, hT⟩ : ∃ T : BitVec 32, s'[s'.length - 1]? = some T := ⟨_, List.getElem?_eq_getElem hlt⟩
      rw [List.getD, hT] at hpk
      simp only [Option.getD_some] at hpk
      have cT := KY2.out.cell (hce _ _ hT) (by simp)
      rw [← HA.out] at cT
      have cT2 : (w10.alloc (.cells #[.int .u32 a, .string st, .int .i64 (tk : Int), .int .i64 (g : Int), .int .i64 o, .bool tx, .bool jp] 40)).cell? ⟨MS, A - 1, none⟩ = some (.int .u32 (T.toNat : Int)) := cT
      rw [if_pos h0, hpk] at D1
      rw [if_neg (by rw [h0]; decide), if_neg (by rw [h0]; decide)] at D2
      obtain rfl : C2 = C := by omega
      have iA : ((A : Int) - 1).toNat = A - 1 := by omega
      clear hne hce hpk hlt hT cT h5 hst
      by_cases hT0 : T = 0#32
      · rw [if_pos hT0] at D1
        obtain rfl : A2 = A := by omega
        subst hT0
        simp only [BitVec.toNat_ofNat, Nat.zero_mod, Int.natCast_zero] at cT2
        clear D1 D2 h0
        go_wp2_with (go_at_call 10; refine (awake12_any _).mono ?_; rintro e w9 ⟨rfl, hk⟩; have HK9 := Lib.hid hk; clear hk)
        go_ret
        exact ⟨rfl, KZ.out.trans HK9.out⟩
      · rw [if_neg hT0] at D1
        have eA : (A2 : Int) = (A : Int) + 1 := D1
        have nT : ((T.toNat : Int) == 0) = false := by
          simp
          intro h
          exact hT0 (BitVec.eq_of_toNat_eq (by simpa using h))
        have nT2 : ((T.toNat : Int) != 0) = true := by simpa using nT
        generalize T.toNat = tn at *
        obtain rfl : A2 = A + 1 := by omega
        clear D1 D2 h0 eA
        go_wp2_with (go_at_call 10; refine (awake12_any _).mono ?_; rintro e w9 ⟨rfl, hk⟩; have HK9 := Lib.hid hk; clear hk)
        go_ret
        exact ⟨rfl, KZ.out.trans HK9.out⟩
    by_cases h1 : nm = [82, 79, 76, 76]
    · -- ROLL
      have s0 : (st.toList == [63, 68, 85, 80]) = false := by rw [hst]; exact decide_eq_false (by rw [h1]; decide)
      have s1 : (st.toList == [82, 79, 76, 76]) = true := by rw [hst]; exact decide_eq_true h1
      have s2q : (st.toList == [62, 82]) = false := by rw [hst]; exact decide_eq_false (by rw [h1]; decide)
      have s3 : (st.toList == [82, 62]) = false := by rw [hst]; exact decide_eq_false (by rw [h1]; decide)
      rw [if_neg (by rw [h1]; decide), if_pos h1] at D1
      rw [if_neg (by rw [h1]; decide), if_neg (by rw [h1]; decide)] at D2
      obtain rfl : C2 = C := by omega
      have eA : ((A2 : Int) == (A : Int) + (-1)) = true := by simp; omega
      have eA2 : ((A2 : Int) == (A : Int) - 1) = true := by simp; omega
      clear D1 D2 h0 h1 h5 hst
      go_wp2_with (go_at_call 10; refine (awake12_any _).mono ?_; rintro e w9 ⟨rfl, hk⟩; have HK9 := Lib.hid hk; clear hk)
      go_ret
      exact ⟨rfl, KZ.out.trans HK9.out⟩
    by_cases h2 : nm = [62, 82]
    · -- >R
      have s0 : (st.toList == [63, 68, 85, 80]) = false := by rw [hst]; exact decide_eq_false (by rw [h2]; decide)
      have s1 : (st.toList == [82, 79, 76, 76]) = false := by rw [hst]; exact decide_eq_false (by rw [h2]; decide)
      have s2q : (st.toList == [62, 82]) = true := by rw [hst]; exact decide_eq_true h2
      have s3 : (st.toList == [82, 62]) = false := by rw [hst]; exact decide_eq_false (by rw [h2]; decide)
      rw [if_neg (by rw [h2]; decide), if_neg (by rw [h2]; decide)] at D1
      rw [if_pos h2] at D2
      obtain rfl : C2 = C + 1 := by omega
      have eA : ((A2 : Int) == (A : Int) + ((g : Int) - (tk : Int))) = true := by simpa using D1
      clear D1 D2 h0 h1 h2 h5 hst
      go_wp2_with (go_at_call 10; refine (awake12_any _).mono ?_; rintro e w9 ⟨rfl, hk⟩; have HK9 := Lib.hid hk; clear hk)
      go_ret
      exact ⟨rfl, KZ.out.trans HK9.out⟩
    by_cases h3 : nm = [82, 62]
    · -- R>
      have s0 : (st.toList == [63, 68, 85, 80]) = false := by rw [hst]; exact decide_eq_false (by rw [h3]; decide)
      have s1 : (st.toList == [82, 79, 76, 76]) = false := by rw [hst]; exact decide_eq_false (by rw [h3]; decide)
      have s2q : (st.toList == [62, 82]) = false := by rw [hst]; exact decide_eq_false (by rw [h3]; decide)
      have s3 : (st.toList == [82, 62]) = true := by rw [hst]; exact decide_eq_true h3
      rw [if_neg (by rw [h3]; decide), if_neg (by rw [h3]; decide)] at D1
      rw [if_neg (by rw [h3]; decide), if_pos h3] at D2
      obtain rfl : C = C2 + 1 := by omega
      have eA : ((A2 : Int) == (A : Int) + ((g : Int) - (tk : Int))) = true := by simpa using D1
      clear D1 D2 h0 h1 h2 h3 h5 hst
      go_wp2_with (go_at_call 10; refine (awake12_any _).mono ?_; rintro e w9 ⟨rfl, hk⟩; have HK9 := Lib.hid hk; clear hk)
      go_ret
      exact ⟨rfl, KZ.out.trans HK9.out⟩
    have s0 : (st.toList == [63, 68, 85, 80]) = false := by rw [hst]; exact decide_eq_false h0
    have s1 : (st.toList == [82, 79, 76, 76]) = false := by rw [hst]; exact decide_eq_false h1
    have s2q : (st.toList == [62, 82]) = false := by rw [hst]; exact decide_eq_false h2
    have s3 : (st.toList == [82, 62]) = false := by rw [hst]; exact decide_eq_false h3
    rw [if_neg h0, if_neg h1] at D1
    rw [if_neg h2, if_neg h3] at D2
    obtain rfl : C2 = C := by omega
    have eA : ((A2 : Int) == (A : Int) + ((g : Int) - (tk : Int))) = true := by simpa using D1
    clear D1 D2 h0 h1 h2 h3 h5 hst
    go_wp2_with (go_at_call 10; refine (awake12_any _).mono ?_; rintro e w9 ⟨rfl, hk⟩; have HK9 := Lib.hid hk; clear hk)
    go_ret
    exact ⟨rfl, KZ.out.trans HK9.out⟩
  · have e := HFI.out.1 ht
    injection e with e1 e2 e3
    subst e1 e2 e3
    have t1 : (t == 0) = false := by simpa using ht
    have t2 : (t != 0) = true := by simpa using ht
    have HM3 := Lib.hid (show ∀ U, Keeps [] wY U → (convert 23 9 (.slice aM 32 cM)).run Tryz.prog U = .ok (.string ⟨(List.replicate 32 (0 : UInt8)).toArray⟩) U from fun U hU => by
      have h := conv_reads (YM.out.keeps hU (by simp))
      rwa [List.length_replicate] at h)
    have HM4 := Lib.hid (show ∀ U, Keeps [] wY U → (convert 23 9 (.slice aM2 32 cM2)).run Tryz.prog U = .ok (.string ⟨(List.replicate 32 (0 : UInt8)).toArray⟩) U from fun U hU => by
      have h := conv_reads (ZM.out.keeps hU (by simp))
      rwa [List.length_replicate] at h)
    have HC1 := Lib.hid (cells_alike wY _ _ s2 MS 0 MS2 0 YS.out ZS.out (by have := LR.out; unfold maxLen; omega))
    have HC2 := Lib.hid (fun U (hU : Keeps [] wY U) => cells_alike U _ _ r2 MR 0 MR2 0 (YR.out.keeps hU (by simp)) (ZR.out.keeps hU (by simp)) (by have := LR.out; unfold maxLen; omega))
    clear ht HFI HDN HHA YS YR YM ZS ZR ZM UV
    go_wp2_with (first
      | (go_at_call_of 9 (#[Value.slice aS s2.length cS, Value.slice aS2 s2.length cS2]); refine HC1.out.mono ?_; rintro e w5 ⟨rfl, hk5⟩; have K5 := Lib.hid hk5; clear hk5)
      | (go_at_call_of 9 (#[Value.slice aR r2.length cR, Value.slice aR2 r2.length cR2]); refine (HC2.out _ K5.out).mono ?_; rintro e w6 ⟨rfl, hk6⟩; have K6 := Lib.hid hk6; have hcv3 := HM3.out _ (K5.out.trans hk6); have hcv4 := HM4.out _ (K5.out.trans hk6); clear hk6)
      | (go_at_call 10; refine (awake12_any _).mono ?_; rintro e w9 ⟨rfl, hk⟩; have HK9 := Lib.hid hk; clear hk))
    go_ret
    exact ⟨rfl, ((KEND.out.trans K5.out).trans K6.out).trans HK9.out⟩

set_option maxRecDepth 100000 in
set_option maxHeartbeats 4000000 in
theorem PlainWhole_word (w : World) (room : Nat) (hroom : room < 256) (sv rv wv : Value) (s r : List (BitVec 32)) (win : List UInt8) (Ms os Mr or Mw : Nat) (hs : UReads w sv s Ms os) (hr : UReads w rv r Mr or) (hw : Reads w wv win Mw)
    (ls : s.length ≤ maxLen) (lr : r.length ≤ maxLen) (lw : win.length ≤ maxLen) (n : Nat) (hn : ¬ (1 ≤ n ∧ n ≤ 73)) :
    Calls Tryz.prog 3 #[.int .u8 (room : Int), sv, rv, wv, .int .u32 (n : Int)] w fun e w' => e = .returned (.bool true) ∧ Keeps [] w w' := by
  obtain ⟨RI, hRI⟩ : ∃ RI : Int, RI = 1 + (room : Int) % 40 := ⟨_, rfl⟩
  obtain ⟨sa, sc, rfl, hsc⟩ := hs.shape
  obtain ⟨ra, rc, rfl, hrc⟩ := hr.shape
  obtain ⟨wa, wc, rfl⟩ : ∃ wa wc, wv = .slice wa win.length wc := by
    obtain ⟨a, c, e, _⟩ := hw.shape
    exact ⟨a, c, e⟩
  have HB := Lib.hid (Begun_any w RI (by omega) (by omega) _ _ _ s r win Ms os Mr or Mw hs hr hw ls lr lw)
  obtain ⟨nw, hnw⟩ : ∃ nw, nw = min win.length 40 := ⟨_, rfl⟩
  have hmW := fun w ts t => run_min2 w ts t (win.length : Int) 40 nw (by omega)
  have eW : (win.take nw).length = nw := by simp; omega
  rw [← hnw] at HB
  have HEW := Lib.hid eW
  have HNW := Lib.hid hnw
  have hml : maxLen = 9223372036854775807 := rfl
  have HN := Lib.hid hn
  clear hn
  clear hs hr hw hsc hrc hnw eW
  generalize s.take (min s.length RI.toNat) = s' at *
  generalize r.take (min r.length RI.toNat) = r' at *
  generalize win.take nw = win' at *
  generalize s.length = ls' at *
  generalize r.length = lr' at *
  generalize win.length = lw' at *
  have HRI := Lib.hid hRI
  have eRI : 1 + (room : Int) % 40 = RI := hRI.symm
  clear hRI
  have HA3 := Lib.hid (fun (U : World) (gs gr gm : Nat) (X : World) (hk : Keeps [] (U.alloc (.cells #[.pointer (some ⟨gs, 0, none⟩), .pointer (some ⟨gr, 0, none⟩), .pointer (some ⟨gm, 0, none⟩)] 28)) X) => (⟨hk.cell (cell_alloc_new U _ _ 0) (by simp), hk.cell (cell_alloc_new U _ _ 1) (by simp), hk.cell (cell_alloc_new U _ _ 2) (by simp)⟩ : X.cell? ⟨U.heap.size, 0, none⟩ = some (.pointer (some ⟨gs, 0, none⟩)) ∧ X.cell? ⟨U.heap.size, 1, none⟩ = some (.pointer (some ⟨gr, 0, none⟩)) ∧ X.cell? ⟨U.heap.size, 2, none⟩ = some (.pointer (some ⟨gm, 0, none⟩))))
  go_enter Tryz.func3, Tryz.ntmps3
  go_upto_region 4 with (go_at_call 4; refine HB.out.mono ?_; rintro e w1 ⟨gs, gr, gm, κ, rfl, hl1, hk1⟩; have HL1 := Lib.hid hl1; have K1 := Lib.hid hk1; clear hl1 hk1)
  have HLV := Lib.hid (HL1.out.next (Keeps.alloc [] w1 (.cells #[.pointer (some ⟨gs, 0, none⟩), .pointer (some ⟨gr, 0, none⟩), .pointer (some ⟨gm, 0, none⟩)] 28)))
  have HZ := Lib.hid (HL1.out.newer (x := w1.heap.size) (Nat.le_refl _))
  have KV := Lib.hid (K1.out.trans (Keeps.alloc [] w1 (.cells #[.pointer (some ⟨gs, 0, none⟩), .pointer (some ⟨gr, 0, none⟩), .pointer (some ⟨gm, 0, none⟩)] 28)))
  have HB3 := Lib.hid (HA3.out w1 gs gr gm)
  have hb : w1.heap.size < (w1.alloc (.cells #[.pointer (some ⟨gs, 0, none⟩), .pointer (some ⟨gr, 0, none⟩), .pointer (some ⟨gm, 0, none⟩)] 28)).heap.size := by simp
  generalize hV : w1.alloc (.cells #[.pointer (some ⟨gs, 0, none⟩), .pointer (some ⟨gr, 0, none⟩), .pointer (some ⟨gm, 0, none⟩)] 28) = V at *
  have HV := Lib.hid hV
  clear hV HA3 HB
  generalize w1.heap.size = B at *
  have b0 := fun X hk => (HB3.out X hk).1
  have b1 := fun X hk => (HB3.out X hk).2.1
  have b2 := fun X hk => (HB3.out X hk).2.2
  have HAS := Lib.hid (fun W (hk : Keeps [] V W) => All_lab (HLV.out.next hk))
  have HAR := Lib.hid (fun W (hk : Keeps [] V W) => AllR_lab (HLV.out.next hk))
  have HRM := Lib.hid (fun W (hk : Keeps [] V W) => Ram_lab (HLV.out.next hk))
  go_region_held3 (fun W' => Keeps [] V W') (first | assumption | exact Keeps.refl [] _ | exact Keeps.drew [] _ | exact Keeps.trans (by assumption) (by assumption) | exact (Keeps.drew [] _).trans (by assumption)) (first
    | (go_at_call_of 5 (#[Value.pointer (some ⟨gs, 0, none⟩)]); refine (HAS.out _ (by first | assumption | exact Keeps.refl [] _ | exact Keeps.drew [] _ | exact Keeps.trans (by assumption) (by assumption) | exact (Keeps.drew [] _).trans (by assumption))).mono ?_; rintro e wS ⟨aS, cS, MS, rfl, uS, bS, hkS⟩)
    | (go_at_call_of 5 (#[Value.pointer (some ⟨gr, 0, none⟩)]); refine (HAR.out _ (by first | assumption | exact Keeps.refl [] _ | exact Keeps.drew [] _ | exact Keeps.trans (by assumption) (by assumption) | exact (Keeps.drew [] _).trans (by assumption))).mono ?_; rintro e wR ⟨aR, cR, MR, rfl, uR, bR, hkR⟩)
    | (go_at_call 6; refine (HRM.out _ (by first | assumption | exact Keeps.refl [] _ | exact Keeps.drew [] _ | exact Keeps.trans (by assumption) (by assumption) | exact (Keeps.drew [] _).trans (by assumption))).mono ?_; rintro e wM ⟨aM, cM, MM, rfl, uM, bM, bM2, hkM⟩))
  have kM : Keeps [] V wM := by assumption
  have KM := Lib.hid kM
  have US := Lib.hid ((uS.keeps hkR (by simp)).keeps hkM (by simp))
  have UR := Lib.hid (uR.keeps hkM (by simp))
  have UM := Lib.hid uM
  have NS := Lib.hid (show s' ≠ [] → κ MS = 0 from fun h => HLV.out.newer (Nat.le_trans (by simp) (bS h).1))
  have NR := Lib.hid (show r' ≠ [] → κ MR = 0 from fun h => HLV.out.newer (Nat.le_trans (Nat.le_trans (by simp) hkS.size) (bR h).1))
  have NM := Lib.hid (show κ MM = 0 from HLV.out.newer (Nat.le_trans (Nat.le_trans (Nat.le_trans (by simp) hkS.size) hkR.size) bM))
  clear uS uR uM bS bR bM bM2 hkS hkR hkM HAS HAR HRM
  have h40 : nw ≤ 40 := by have := HNW.out; omega
  have HSH := Lib.hid (fun ram => shown_win win' ram)
  rw [HEW.out] at HSH
  have HBY := Lib.hid (BytesM_lab (HLV.out.next KM.out) 4096 (nw : Int) 4096 nw rfl rfl (by decide) (by omega) win' 0 (HSH.out _).1 (HSH.out _).2)
  rw [HEW.out] at HBY
  replace b0 := b0 wM kM
  replace b1 := b1 wM kM
  replace b2 := b2 wM kM
  clear kM
  go_upto_region 6 with (go_at_call 7; refine HBY.out.mono ?_; rintro e wB ⟨aW, cW, MW, rfl, uW, bW, hkB⟩; have KB := Lib.hid hkB; have UW := Lib.hid uW; have BW := Lib.hid bW; clear uW bW hkB)
  have NW := Lib.hid (show win' ≠ [] → κ MW = 0 from fun h => HLV.out.newer (Nat.le_trans KM.out.size (BW.out h).1))
  have HLB := Lib.hid (HLV.out.next (KM.out.trans KB.out))
  have HDO := Lib.hid (Do_word wB n HN.out (some ⟨gs, 0, none⟩) (some ⟨gr, 0, none⟩) (some ⟨gm, 0, none⟩))
  replace b0 := KB.out.cell b0 (by simp)
  replace b1 := KB.out.cell b1 (by simp)
  replace b2 := KB.out.cell b2 (by simp)
  clear HBY BW
  have HBX := Lib.hid (And.intro b0 (And.intro b1 b2))
  go_upto_region 7 with (go_at_call 8; refine HDO.out.mono ?_; rintro e wD ⟨rfl, hst⟩; have HLD := Lib.hid (HLB.out.next hst); have ST := Lib.hid (show Step κ wB κ wD from Step.of hst); clear hst)
  have b0 := ST.out.cell HBX.out.1 HZ.out
  have b1 := ST.out.cell HBX.out.2.1 HZ.out
  have b2 := ST.out.cell HBX.out.2.2 HZ.out
  have HBD := Lib.hid (And.intro b0 (And.intro b1 b2))
  clear b0 b1 b2 HDO HBX
  have US2 := Lib.hid (ST.out.ureads (US.out.keeps KB.out (by simp)) NS.out)
  have UR2 := Lib.hid (ST.out.ureads (UR.out.keeps KB.out (by simp)) NR.out)
  have UM2 := Lib.hid (ST.out.reads (UM.out.keeps KB.out (by simp)) (fun _ => NM.out))
  have UW2 := Lib.hid (ST.out.reads UW.out NW.out)
  clear US UR UM UW NS NR NM NW
  have b0 := fun X (hk : Keeps [] wD X) => hk.cell HBD.out.1 (by simp)
  have b1 := fun X (hk : Keeps [] wD X) => hk.cell HBD.out.2.1 (by simp)
  have b2 := fun X (hk : Keeps [] wD X) => hk.cell HBD.out.2.2 (by simp)
  have HAS := Lib.hid (fun W (hk : Keeps [] wD W) => All_lab (HLD.out.next hk))
  have HAR := Lib.hid (fun W (hk : Keeps [] wD W) => AllR_lab (HLD.out.next hk))
  have HRM := Lib.hid (fun W (hk : Keeps [] wD W) => Ram_lab (HLD.out.next hk))
  go_region_held3 (fun W' => Keeps [] wD W') (first | assumption | exact Keeps.refl [] _ | exact Keeps.drew [] _ | exact Keeps.trans (by assumption) (by assumption) | exact (Keeps.drew [] _).trans (by assumption)) (first
    | (go_at_call_of 5 (#[Value.pointer (some ⟨gs, 0, none⟩)]); refine (HAS.out _ (by first | assumption | exact Keeps.refl [] _ | exact Keeps.drew [] _ | exact Keeps.trans (by assumption) (by assumption) | exact (Keeps.drew [] _).trans (by assumption))).mono ?_; rintro e wS ⟨aS2, cS2, MS2, rfl, uS, bS, hkS⟩)
    | (go_at_call_of 5 (#[Value.pointer (some ⟨gr, 0, none⟩)]); refine (HAR.out _ (by first | assumption | exact Keeps.refl [] _ | exact Keeps.drew [] _ | exact Keeps.trans (by assumption) (by assumption) | exact (Keeps.drew [] _).trans (by assumption))).mono ?_; rintro e wR ⟨aR2, cR2, MR2, rfl, uR, bR, hkR⟩)
    | (go_at_call 6; refine (HRM.out _ (by first | assumption | exact Keeps.refl [] _ | exact Keeps.drew [] _ | exact Keeps.trans (by assumption) (by assumption) | exact (Keeps.drew [] _).trans (by assumption))).mono ?_; rintro e wX ⟨aM2, cM2, MM2, rfl, uM, bM, bM2, hkM⟩))
  have kX : Keeps [] wD wX := by assumption
  have KX := Lib.hid kX
  have VS := Lib.hid ((uS.keeps hkR (by simp)).keeps hkM (by simp))
  have VR := Lib.hid (uR.keeps hkM (by simp))
  have VM := Lib.hid uM
  clear uS uR uM bS bR bM bM2 hkS hkR hkM HAS HAR HRM
  have HBY := Lib.hid (BytesM_lab (HLD.out.next KX.out) 4096 (nw : Int) 4096 nw rfl rfl (by decide) (by omega) win' 0 (HSH.out _).1 (HSH.out _).2)
  rw [HEW.out] at HBY
  replace b0 := b0 wX kX
  replace b1 := b1 wX kX
  replace b2 := b2 wX kX
  clear kX
  go_upto_region 9 with (go_at_call 7; refine HBY.out.mono ?_; rintro e wY ⟨aV, cV, MV, rfl, uV, bV, hkY⟩; have KY := Lib.hid hkY; have UV := Lib.hid uV; clear uV bV hkY)
  have UW3 := Lib.hid (UW2.out.keeps (KX.out.trans KY.out) (by simp))
  have hcv1 := conv_reads UW3.out
  have hcv2 := conv_reads UV.out
  have KWY := Lib.hid ((((KV.out.trans KM.out).trans KB.out)))
  have KWD := Lib.hid (HLD.out.kept)
  have YS := Lib.hid (US2.out.keeps (KX.out.trans KY.out) (by simp))
  have YR := Lib.hid (UR2.out.keeps (KX.out.trans KY.out) (by simp))
  have YM := Lib.hid (UM2.out.keeps (KX.out.trans KY.out) (by simp))
  have ZS := Lib.hid (VS.out.keeps KY.out (by simp))
  have ZR := Lib.hid (VR.out.keeps KY.out (by simp))
  have ZM := Lib.hid (VM.out.keeps KY.out (by simp))
  have KEND := Lib.hid ((KWD.out.trans KX.out).trans KY.out)
  have LR := Lib.hid HLD.out.lens
  clear US2 UR2 UM2 UW2 UW3 VS VR VM b0 b1 b2 HBD HBY
  have HM3 := Lib.hid (show ∀ U, Keeps [] wY U → (convert 23 9 (.slice aM 32 cM)).run Tryz.prog U = .ok (.string ⟨(List.replicate 32 (0 : UInt8)).toArray⟩) U from fun U hU => by
    have h := conv_reads (YM.out.keeps hU (by simp))
    rwa [List.length_replicate] at h)
  have HM4 := Lib.hid (show ∀ U, Keeps [] wY U → (convert 23 9 (.slice aM2 32 cM2)).run Tryz.prog U = .ok (.string ⟨(List.replicate 32 (0 : UInt8)).toArray⟩) U from fun U hU => by
    have h := conv_reads (ZM.out.keeps hU (by simp))
    rwa [List.length_replicate] at h)
  have HC1 := Lib.hid (cells_alike wY _ _ s' MS 0 MS2 0 YS.out ZS.out (by have := LR.out; unfold maxLen; omega))
  have HC2 := Lib.hid (fun U (hU : Keeps [] wY U) => cells_alike U _ _ r' MR 0 MR2 0 (YR.out.keeps hU (by simp)) (ZR.out.keeps hU (by simp)) (by have := LR.out; unfold maxLen; omega))
  clear YS YR YM ZS ZR ZM UV
  by_cases q : n = 0
  · subst q
    go_wp2_with (first
      | (go_at_call_of 9 (#[Value.slice aS s'.length cS, Value.slice aS2 s'.length cS2]); refine HC1.out.mono ?_; rintro e w5 ⟨rfl, hk5⟩; have K5 := Lib.hid hk5; clear hk5)
      | (go_at_call_of 9 (#[Value.slice aR r'.length cR, Value.slice aR2 r'.length cR2]); refine (HC2.out _ K5.out).mono ?_; rintro e w6 ⟨rfl, hk6⟩; have K6 := Lib.hid hk6; have hcv3 := HM3.out _ (K5.out.trans hk6); have hcv4 := HM4.out _ (K5.out.trans hk6); clear hk6)
      | (go_at_call 10; refine (awake12_any _).mono ?_; rintro e w9 ⟨rfl, hk⟩; have HK9 := Lib.hid hk; clear hk))
    go_ret
    exact ⟨rfl, ((KEND.out.trans K5.out).trans K6.out).trans HK9.out⟩
  · have q1 : decide ((n : Int) < 1) = false := decide_eq_false (by omega)
    have q2 : decide ((73 : Int) < (n : Int)) = true := decide_eq_true (by have := HN.out; omega)
    go_wp2_with (first
      | (go_at_call_of 9 (#[Value.slice aS s'.length cS, Value.slice aS2 s'.length cS2]); refine HC1.out.mono ?_; rintro e w5 ⟨rfl, hk5⟩; have K5 := Lib.hid hk5; clear hk5)
      | (go_at_call_of 9 (#[Value.slice aR r'.length cR, Value.slice aR2 r'.length cR2]); refine (HC2.out _ K5.out).mono ?_; rintro e w6 ⟨rfl, hk6⟩; have K6 := Lib.hid hk6; have hcv3 := HM3.out _ (K5.out.trans hk6); have hcv4 := HM4.out _ (K5.out.trans hk6); clear hk6)
      | (go_at_call 10; refine (awake12_any _).mono ?_; rintro e w9 ⟨rfl, hk⟩; have HK9 := Lib.hid hk; clear hk))
    go_ret
    exact ⟨rfl, ((KEND.out.trans K5.out).trans K6.out).trans HK9.out⟩

theorem PlainWhole_any (w : World) (room : Nat) (hroom : room < 256) (sv rv wv : Value) (s r : List (BitVec 32)) (win : List UInt8) (Ms os Mr or Mw : Nat) (hs : UReads w sv s Ms os) (hr : UReads w rv r Mr or) (hw : Reads w wv win Mw)
    (ls : s.length ≤ maxLen) (lr : r.length ≤ maxLen) (lw : win.length ≤ maxLen) (n : Nat) :
    Calls Tryz.prog 3 #[.int .u8 (room : Int), sv, rv, wv, .int .u32 (n : Int)] w fun e w' => e = .returned (.bool true) ∧ Keeps [] w w' := by
  by_cases h : 1 ≤ n ∧ n ≤ 73
  · exact PlainWhole_prim w room hroom sv rv wv s r win Ms os Mr or Mw hs hr hw ls lr lw (n - 1) (by omega) n (by omega)
  · exact PlainWhole_word w room hroom sv rv wv s r win Ms os Mr or Mw hs hr hw ls lr lw n h
end Go.Proofs.YtfnjjanknfmibaaGreat
