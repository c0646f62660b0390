/-
  Contracts of sha: add.
-/
import Derived.Test.YtlnmbfddhdjioaaDoorShaH
import Derived.Test.YtlnmbfddhdjioaaDoorShaN
import Derived.Laws.CopyOwn
namespace Go.Proofs.YtlnmbfddhdjioaaDoor
open Go.RowKit

/-- The cells of a text: its words, its block, how many bytes it has. -/
def tcells (s : W8) (xs : List UInt8) (n : Nat) : List Value := tab 8 s.get ++ (xs.map bv ++ [Value.int .i64 n])

theorem tcells_length (s : W8) (xs : List UInt8) (n : Nat) (h : xs.length = 64) : (tcells s xs n).length = 73 := by simp [tcells, tab_length, h]

/-- In a block, behind some cells, lies what is known of a text. -/
def Txt (w : World) (b : Nat) (T : TypeId) (pre : List Value) (l : List UInt8) : Prop := ∃ xs, Heads l xs ∧ Whole w b T (pre ++ tcells (stOf kk h0 l) xs l.length)

theorem Txt.keeps {S : List Nat} {w w' : World} {b : Nat} {T : TypeId} {pre : List Value} {l : List UInt8} (h : Txt w b T pre l) (hk : Keeps S w w') (hb : b ∉ S) : Txt w' b T pre l := by
  obtain ⟨xs, hx, hw⟩ := h
  exact ⟨xs, hx, hw.keeps hk hb⟩

theorem wholeLen {w : World} {b : Nat} {T : TypeId} {pre : List Value} {s : W8} {xs : List UInt8} {n : Nat} (h : Whole w b T (pre ++ tcells s xs n)) (hx : xs.length = 64) (off : Nat) (ho : pre.length = off) :
    w.cell? ⟨b, off + 72, none⟩ = some (.int .i64 n) := by
  rw [h.cell, List.getElem?_append_right (by omega), ho, Nat.add_sub_cancel_left]
  unfold tcells
  rw [List.getElem?_append_right (by simp [tab_length]), tab_length, List.getElem?_append_right (by simp [hx])]
  simp [hx]

theorem set_len (pre : List Value) (s : W8) (xs : List UInt8) (n m off : Nat) (hx : xs.length = 64) (ho : pre.length = off) :
    (pre ++ tcells s xs n).set (off + 72) (.int .i64 m) = pre ++ tcells s xs m := by
  unfold tcells
  rw [List.set_append_right _ _ (by omega), ho, Nat.add_sub_cancel_left, List.set_append_right _ _ (by simp [tab_length]), tab_length, List.set_append_right _ _ (by simp [hx])]
  simp [hx]

theorem splice_block (pre : List Value) (s : W8) (xs c : List UInt8) (n off r : Nat) (hx : xs.length = 64) (ho : pre.length = off) (hr : r + c.length ≤ 64) :
    (pre ++ tcells s xs n).take (off + 8 + r) ++ (c.map bv ++ (pre ++ tcells s xs n).drop (off + 8 + r + (c.map bv).length)) = pre ++ tcells s (putAt xs r c) n := by
  have e1 : (pre ++ tcells s xs n).take (off + 8 + r) = pre ++ (tab 8 s.get ++ (xs.take r).map bv) := by
    unfold tcells
    rw [List.take_append, List.take_of_length_le (l := pre) (by omega), List.take_append, List.take_of_length_le (l := tab 8 s.get) (by rw [tab_length]; omega), List.take_append_of_le_length (by rw [tab_length]; simp [hx]; omega)]
    rw [tab_length, ← List.map_take]
    congr 4
    omega
  have e2 : (pre ++ tcells s xs n).drop (off + 8 + r + (c.map bv).length) = (xs.drop (r + c.length)).map bv ++ [Value.int .i64 n] := by
    unfold tcells
    rw [List.length_map, List.drop_append, List.drop_of_length_le (l := pre) (by omega), List.nil_append, List.drop_append, List.drop_of_length_le (l := tab 8 s.get) (by rw [tab_length]; omega), List.nil_append, tab_length, ho]
    rw [List.drop_append_of_le_length (by simp [hx]; omega), ← List.map_drop]
    congr 3
    omega
  rw [e1, e2]
  unfold tcells putAt
  simp

theorem run_block (w : World) (b o r : Nat) (hr : r < 64) : (Instr.sliceAt 46 (.pointer (some ⟨b, o, none⟩)) (some (.int .i64 r)) none none).run Tryd.prog w = .ok (.slice (some ⟨b, o + r, none⟩) (64 - r) (64 - r)) w := by
  have hu : Tryd.prog.underlying 46 = some (.array (Tryd.prog.arrayLen 46) (Tryd.prog.elem 46)) := Tryd.underlying46
  have h64 : Tryd.prog.arrayLen 46 = 64 := rfl
  rw [run_sliceAt_array_l _ _ _ hu _ _ (by omega) (by rw [h64]; omega), show Tryd.prog.elem 46 = 5 from rfl, sizeByte, h64]
  simp only [Result.andThen_ok, slicedAt, Int.toNat_natCast, Nat.mul_one]
  rw [if_neg (by omega), Addr.add_off]

theorem txt_one (pre : List Value) (hp : ∀ u ∈ pre, u.oneCell' = true) (s : W8) (xs : List UInt8) (n : Nat) : ∀ u ∈ pre ++ tcells s xs n, u.oneCell' = true := by
  intro u hu
  rcases List.mem_append.1 hu with h | h
  · exact hp u h
  · unfold tcells at h
    rcases List.mem_append.1 h with h | h
    · exact tab_ones _ _ u h
    · rcases List.mem_append.1 h with h | h
      · exact one_bytes _ u h
      · simp at h; subst h; rfl

set_option maxRecDepth 100000 in
set_option maxHeartbeats 800000 in
theorem add_any (w : World) (b off M : Nat) (T : TypeId) (pre : List Value) (l bs : List UInt8) (v : Value) (hT : Txt w b T pre l) (ho : pre.length = off) (hr : Reads w v bs M) (hM : M ≠ b) (hR : Roots w) (hb0 : 0 ≠ b) (hb1 : 1 ≠ b) (hn : l.length + bs.length ≤ 1000000000) :
    Calls Tryd.prog 22 #[.pointer (some ⟨b, off, none⟩), v] w fun e w' => (∃ u, e = .returned u) ∧ Txt w' b T pre (l ++ bs) ∧ Keeps [b] w w' := by
  have HT := Lib.hid hT
  have HO := Lib.hid ho
  have HRD := Lib.hid hr
  have HR := Lib.hid hR
  clear hT ho hr hR
  go_enter Tryd.func22, Tryd.ntmps22
  go_wp2
  go_loopw [1] (fun v wr => ∃ m : Nat, m ≤ bs.length ∧ Reads wr v (bs.drop m) M ∧ Txt wr b T pre (l ++ bs.take m) ∧ Keeps [b] w wr) (fun v _ => match v with | .slice _ n _ => n | _ => 0)
  case atStart => exact ⟨0, Nat.zero_le _, by simpa using HRD.out, by simpa using HT.out, Keeps.refl _ _⟩
  case round =>
    obtain ⟨m, hm, hr, hT, kp⟩ := hrel
    by_cases hlt : m < bs.length
    · have hne : bs.drop m ≠ [] := by simp; omega
      obtain ⟨o, cap, rfl, hcap, hcell⟩ := hr.at hne
      obtain ⟨xs, hx, hw⟩ := hT
      have hLn : (l ++ bs.take m).length = l.length + m := by simp; omega
      have hdl : (bs.drop m).length = bs.length - m := by simp
      have hbound : (l ++ bs.take m).length ≤ 1000000000 := by omega
      have hpos : 0 < (bs.drop m).length := by omega
      have hmost : (bs.drop m).length ≤ 1000000000 := by omega
      obtain ⟨k, hk⟩ : ∃ k, k = min (64 - (l ++ bs.take m).length % 64) (bs.drop m).length := ⟨_, rfl⟩
      have hk0 : 0 < k := by omega
      have hk1 : k ≤ (bs.drop m).length := by omega
      have hk2 : (l ++ bs.take m).length % 64 + k ≤ 64 := by omega
      have hcl : ((bs.drop m).take k).length = k := by rw [List.length_take]; omega
      have hjoin : l ++ bs.take (m + k) = (l ++ bs.take m) ++ (bs.drop m).take k := by rw [List.take_add, List.append_assoc]
      have hrest : bs.drop (m + k) = (bs.drop m).drop k := by rw [List.drop_drop]
      have hmk : m + k ≤ bs.length := by omega
      have HREST := Lib.hid hrest
      have HJOIN := Lib.hid hjoin
      have hreads := hr
      have ht := hr.tail k hk1
      obtain ⟨q, c', hrun, hrd⟩ := ht
      clear hrest hjoin hLn hdl hlt hne hm
      generalize l ++ bs.take m = L at *
      generalize bs.drop m = rem at *
      have HKM := Lib.hid hk
      clear hk
      have h72 := wholeLen hw hx.1 off HO.out
      have e64 : (L.length : Int) % 64 = ((L.length % 64 : Nat) : Int) := by omega
      have t64 : (L.length : Int).tmod 64 = ((L.length % 64 : Nat) : Int) := by rw [Int.tmod_eq_emod_of_nonneg (by omega)]; exact e64
      have hr64 : L.length % 64 < 64 := by omega
      have hsl := fun w => run_block w b (off + 8) (L.length % 64) hr64
      have hspl := splice_block pre (stOf kk h0 L) xs (rem.take k) L.length off (L.length % 64) hx.1 HO.out (by rw [hcl]; exact hk2)
      generalize hrr : L.length % 64 = r at *
      have HRR := Lib.hid hrr
      have HSPL := Lib.hid hspl
      have HCL := Lib.hid hcl
      have HW := Lib.hid hw
      have HX := Lib.hid hx
      have HCELL := Lib.hid hcell
      have HRDS := Lib.hid hrd
      have HRUN := Lib.hid hrun
      have KP := Lib.hid kp
      clear hspl hcl hw hx hcell hrd hrun kp hr hreads hrr
      go_upto_region 1 with (fail)
      refine wp_region_tail 10 (by kernel_rfl) (by kernel_rfl) ?_
      intro w2 hw2
      have k2 : Keeps [] wr w2 := by rw [hw2]; exact Keeps.drew _ _
      have h72 := k2.cell h72 (by simp)
      have HW2 := Lib.hid (HW.out.keeps k2 (by simp))
      have HC2 := Lib.hid (fun i x hi => k2.cell (HCELL.out i x hi) (by simp))
      have HRD2 := Lib.hid (HRDS.out.keeps k2 (by simp))
      have KP2 := Lib.hid (KP.out.trans (k2.mono (by simp)))
      clear k2 hw2
      simp only [List.take_succ_cons, List.take_zero, List.drop_succ_cons, List.drop_zero]
      repeat still_step
      refine wpStill_nil ?_
      refine wpList_copy_own rfl (.tmp 16) (.tmp 17) 22 22 rfl 5 Tryd.underlying22 szByte b (off + 8 + r) (64 - r) (64 - r) ⟨M, o, none⟩ rem.length cap rfl rfl (pre ++ tcells (stOf kk h0 L) xs L.length).toArray T HW2.out ((rem.take k).map bv) ?c1 ?c2 ?c3 (one_bytes _) ?_
      case c1 => rw [List.length_map, HCL.out]; have := HKM.out; rw [this]; exact Nat.min_comm _ _
      case c2 =>
        intro j v hv
        rw [List.getElem?_map] at hv
        obtain ⟨c, hc, rfl⟩ := Option.map_eq_some_iff.1 hv
        rw [List.getElem?_take] at hc
        split at hc
        · rw [Addr.add_off]; exact HC2.out j c hc
        · cases hc
      case c3 => simp [tcells_length _ _ _ HX.out.1, HO.out]; omega
      generalize hV : World.setRow w2 b _ = V
      have hVW : Whole V b T (pre ++ tcells (stOf kk h0 L) (putAt xs r (rem.take k)) L.length) := by
        rw [← hV, ← HSPL.out]; exact HW2.out.setRow _
      have kV : Keeps [b] w2 V := by rw [← hV]; exact Keeps.setRow _ (by simp) _
      have hxl : (putAt xs r (rem.take k)).length = 64 := by rw [putAt_length _ _ _ (by rw [HX.out.1, HCL.out]; exact hk2), HX.out.1]
      have h72V := wholeLen hVW hxl off HO.out
      have f72V := hVW.frozen (off + 72)
      have hmin : min k rem.length = k := Nat.min_eq_left hk1
      have hrun := HRUN.out
      have hnw : IntKind.i64.wrap ((L.length : Int) + (k : Int)) = (L.length : Int) + (k : Int) := IntWalk.i64_in _ (by omega)
      have HVW := Lib.hid hVW
      have HXL := Lib.hid hxl
      have HRDV := Lib.hid (HRD2.out.keeps kV (notMem1 hM))
      have KPV := Lib.hid (KP2.out.trans kV)
      clear hV hVW kV hxl HRD2 KP2 HC2 HW2
      by_cases hfull : r + k = 64
      · have hmod : ((L.length : Int) + (k : Int)) % 64 = 0 := by have := HRR.out; omega
        have hmodt : ((L.length : Int) + (k : Int)).tmod 64 = 0 := by rw [Int.tmod_eq_emod_of_nonneg (by omega)]; exact hmod
        go_upto_region 5 with (fail)
        generalize hV2 : World.setCell V ⟨b, off + 72, none⟩ _ = V2
        have h2 : Whole V2 b T (pre ++ tcells (stOf kk h0 L) (putAt xs r (rem.take k)) (L.length + k)) := by
          rw [← hV2]
          have := HVW.out.set (off + 72) (.int .i64 ((L.length + k : Nat) : Int))
          rw [set_len _ _ _ _ _ _ HXL.out HO.out] at this
          rw [Int.natCast_add] at this
          exact this
        have k2 : Keeps [b] V V2 := by rw [← hV2]; exact Keeps.setCell _ (by simp) _
        have K2 := Lib.hid (KPV.out.trans k2)
        have R2 := Lib.hid (HRDV.out.keeps k2 (notMem1 hM))
        have RR := Lib.hid ((HR.out.keeps K2.out (notMem1 hb0) (notMem1 hb1)).keeps (Keeps.drew [] V2) (by simp) (by simp))
        have d2 : Whole V2.drew b T (pre ++ tcells (stOf kk h0 L) (putAt xs r (rem.take k)) (L.length + k)) := h2.keeps (Keeps.drew [] _) (by simp)
        have D2 := Lib.hid d2
        have d3 : Whole V2.drew b T ((pre ++ tab 8 (stOf kk h0 L).get) ++ ((putAt xs r (rem.take k)).map bv ++ [Value.int .i64 ((L.length + k : Nat) : Int)])) := by
          have := d2; unfold tcells at this; rw [← List.append_assoc] at this; exact this
        have L1 := Lib.hid (d2.range off HO.out)
        have L2 := Lib.hid (d3.range (off + 8) (by simp [tab_length, HO.out]))
        have HST := Lib.hid (stOf_full kk h0 L xs (rem.take k) HX.out (by rw [HRR.out, HCL.out]; exact hfull))
        have HHD := Lib.hid (Heads.full (l := L) (c := rem.take k) (by rw [HRR.out, HCL.out]; exact hfull) (putAt xs r (rem.take k)) HXL.out)
        clear hV2 h2 k2 d2 d3 HVW HRDV KPV h72V f72V
        refine wp_region_any (by kernel_rfl) ?_
        change wpAny _ _ _ _ _ _ _ (World.drew _)
        refine wpAny_take (i := 0) (v := ?_) rfl (by kernel_rfl) (by kernel_rfl) (by kernel_rfl) (fun _ _ _ h => h) (Or.inl ⟨by rfl, by intro w; go_simp; with_reducible rfl⟩) ?_
        refine wpAny_take (i := 1) (v := ?_) rfl (by kernel_rfl) (by kernel_rfl) (by kernel_rfl) (fun _ _ _ h => h) (Or.inl ⟨by rfl, by intro w; go_simp; with_reducible rfl⟩) ?_
        refine wpAny_take (i := 2) (v := ?_) rfl (by kernel_rfl) (by kernel_rfl) (by kernel_rfl) (fun _ _ _ h => h) (Or.inl ⟨by rfl, by intro w; go_simp; with_reducible rfl⟩) ?_
        refine wpAny_take (i := 3) (v := ?_) rfl (by kernel_rfl) (by kernel_rfl) (by kernel_rfl) (fun _ _ _ h => h) (Or.inl ⟨by rfl, by intro w; go_simp; with_reducible rfl⟩) ?_
        refine wpAny_take (i := 5) (v := ?_) rfl (by kernel_rfl) (by kernel_rfl) (by kernel_rfl) (fun _ _ _ h => h) (Or.inl ⟨by rfl, by intro w; go_simp; with_reducible rfl⟩) ?_
        refine wpAny_take (i := 6) (v := ?_) rfl (by kernel_rfl) (by kernel_rfl) (by kernel_rfl) (fun _ _ _ h => h) (Or.inl ⟨by rfl, by intro w; go_simp; with_reducible rfl⟩) ?_
        refine wpAny_take (i := 7) (v := ?_) rfl (by kernel_rfl) (by kernel_rfl) (by kernel_rfl) (fun _ _ _ h => h) (Or.inl ⟨by rfl, by intro w; go_simp; with_reducible rfl⟩) ?_
        simp only [Act.put, List.getElem_toArray, List.getElem_cons_succ, List.getElem_cons_zero, List.setIfInBounds_toArray, List.set_cons_succ, List.set_cons_zero]
        refine wpAny_ready (rs := [4, 8]) (by kernel_rfl) (by simp) ?_
        refine AllReady.cons (o := { dst := some 40, op := Op.load 45 (Operand.tmp 39), type := 45, pos := "text.go:22", after := #[{ on := 3, ground := Ground.data }], guard := none }) rfl (fun K hK => ?_) (AllReady.cons (o := { dst := some 44, op := Op.load 46 (Operand.tmp 43), type := 46, pos := "text.go:22", after := #[{ on := 7, ground := Ground.data }], guard := none }) rfl (fun K hK => ?_) AllReady.nil)
        · refine step_load_mid rfl 45 (.tmp 39) rfl b off rfl (tab 8 (stOf kk h0 L).get) _ L1.out Tryd.underlying45 rfl (by rw [szArr8]; simp [tab_length]) ?_
          refine hK _ _ ?_
          clear hK K
          simp only [Act.put, List.setIfInBounds_toArray, List.set_cons_succ, List.set_cons_zero]
          refine wpAny_ready (rs := [8]) (by kernel_rfl) (by simp) (AllReady.cons (o := { dst := some 44, op := Op.load 46 (Operand.tmp 43), type := 46, pos := "text.go:22", after := #[{ on := 7, ground := Ground.data }], guard := none }) rfl (fun K hK => ?_) AllReady.nil)
          refine step_load_mid rfl 46 (.tmp 43) rfl b (off + 8) rfl ((putAt xs r (rem.take k)).map bv) _ L2.out Tryd.underlying46 rfl (by rw [szArr64b]; simp [HXL.out]) ?_
          refine hK _ _ ?_
          clear hK K
          simp only [Act.put, List.setIfInBounds_toArray, List.set_cons_succ, List.set_cons_zero]
          refine wpAny_ready (rs := [9]) (by kernel_rfl) (by simp) (AllReady.cons (o := { dst := some 45, op := Op.call { callee := Callee.value (Operand.func 26), args := #[Operand.tmp 40, Operand.tmp 44], argTypes := #[45, 46] }, type := 45, pos := "text.go:22", after := #[{ on := 4, ground := Ground.data }, { on := 8, ground := Ground.data }], guard := none }) rfl (fun K hK => ?_) AllReady.nil)
          go_simp
          go_wp2_with (go_at_call 26; refine (after_any _ (stOf kk h0 L) _ HXL.out RR.out).mono ?_; rintro e w5 ⟨rfl, k5⟩)
          refine wpAny_take (i := 10) (v := ?_) rfl (by kernel_rfl) (by kernel_rfl) (by kernel_rfl) (fun _ _ _ h => h) (Or.inl ⟨by rfl, by intro w; go_simp; with_reducible rfl⟩) ?_
          refine wpAny_take (i := 11) (v := ?_) rfl (by kernel_rfl) (by kernel_rfl) (by kernel_rfl) (fun _ _ _ h => h) (Or.inl ⟨by rfl, by intro w; go_simp; with_reducible rfl⟩) ?_
          simp only [Act.put, List.getElem_toArray, List.getElem_cons_succ, List.getElem_cons_zero, List.setIfInBounds_toArray, List.set_cons_succ, List.set_cons_zero]
          refine wpAny_ready (rs := [12]) (by kernel_rfl) (by simp) (AllReady.cons (o := { dst := none, op := Op.store 45 (Operand.tmp 47) (Operand.tmp 45), type := 0, pos := "text.go:22", after := #[{ on := 11, ground := Ground.data }, { on := 9, ground := Ground.data }, { on := 9, ground := Ground.chain }, { on := 0, ground := Ground.phase }, { on := 1, ground := Ground.phase }, { on := 2, ground := Ground.phase }, { on := 3, ground := Ground.phase }, { on := 4, ground := Ground.phase }, { on := 5, ground := Ground.phase }, { on := 6, ground := Ground.phase }, { on := 7, ground := Ground.phase }, { on := 8, ground := Ground.phase }, { on := 9, ground := Ground.phase }], guard := none }) rfl (fun K hK => ?_) AllReady.nil)
          have D5 := D2.out.keeps k5 (by simp)
          refine step_store_mid rfl 45 (.tmp 47) (.tmp 45) rfl b off (tab 8 (blk kk (stOf kk h0 L) (wordOf (putAt xs r (rem.take k)))).get).toArray rfl rfl (D5.there off _ (by simp [tab_length, tcells_length _ _ _ HXL.out, HO.out])) (by rw [szArr8]; simp [tab_length]) (tab_one _ _) ?_
          refine hK _ _ ?_
          clear hK K
          refine wpAny_done (by kernel_rfl) ?_ _
          have D6 : Whole (w5.setCells b off (tab 8 (blk kk (stOf kk h0 L) (wordOf (putAt xs r (rem.take k)))).get)) b T (pre ++ tcells (blk kk (stOf kk h0 L) (wordOf (putAt xs r (rem.take k)))) (putAt xs r (rem.take k)) (L.length + k)) :=
            D5.setCells (cs := tab 8 (stOf kk h0 L).get) _ off HO.out (by simp [tab_length])
          have K6 := ((Keeps.drew [b] V2).trans (k5.mono (by simp))).trans (Keeps.setCells (S := [b]) w5 (List.mem_singleton.2 rfl) off (tab 8 (blk kk (stOf kk h0 L) (wordOf (putAt xs r (rem.take k)))).get))
          have R6 := Lib.hid (R2.out.keeps K6 (notMem1 hM))
          have T6 := Lib.hid D6
          have KK6 := Lib.hid (K2.out.trans K6)
          clear D5 D6 K6 k5
          simp only [Act.put]
          go_wp2
          go_roundw
          case rel =>
            refine ⟨m + k, hmk, ?_, ?_, KK6.out⟩
            · rw [HREST.out]; simpa using R6.out
            · rw [HJOIN.out]
              refine ⟨putAt xs r (rem.take k), HHD.out, ?_⟩
              rw [HST.out, List.length_append, HCL.out, HRR.out]
              exact T6.out
          case measure => simp; omega
        · refine step_load_mid rfl 46 (.tmp 43) rfl b (off + 8) rfl ((putAt xs r (rem.take k)).map bv) _ L2.out Tryd.underlying46 rfl (by rw [szArr64b]; simp [HXL.out]) ?_
          refine hK _ _ ?_
          clear hK K
          simp only [Act.put, List.setIfInBounds_toArray, List.set_cons_succ, List.set_cons_zero]
          refine wpAny_ready (rs := [4]) (by kernel_rfl) (by simp) (AllReady.cons (o := { dst := some 40, op := Op.load 45 (Operand.tmp 39), type := 45, pos := "text.go:22", after := #[{ on := 3, ground := Ground.data }], guard := none }) rfl (fun K hK => ?_) AllReady.nil)
          refine step_load_mid rfl 45 (.tmp 39) rfl b off rfl (tab 8 (stOf kk h0 L).get) _ L1.out Tryd.underlying45 rfl (by rw [szArr8]; simp [tab_length]) ?_
          refine hK _ _ ?_
          clear hK K
          simp only [Act.put, List.setIfInBounds_toArray, List.set_cons_succ, List.set_cons_zero]
          refine wpAny_ready (rs := [9]) (by kernel_rfl) (by simp) (AllReady.cons (o := { dst := some 45, op := Op.call { callee := Callee.value (Operand.func 26), args := #[Operand.tmp 40, Operand.tmp 44], argTypes := #[45, 46] }, type := 45, pos := "text.go:22", after := #[{ on := 4, ground := Ground.data }, { on := 8, ground := Ground.data }], guard := none }) rfl (fun K hK => ?_) AllReady.nil)
          go_simp
          go_wp2_with (go_at_call 26; refine (after_any _ (stOf kk h0 L) _ HXL.out RR.out).mono ?_; rintro e w5 ⟨rfl, k5⟩)
          refine wpAny_take (i := 10) (v := ?_) rfl (by kernel_rfl) (by kernel_rfl) (by kernel_rfl) (fun _ _ _ h => h) (Or.inl ⟨by rfl, by intro w; go_simp; with_reducible rfl⟩) ?_
          refine wpAny_take (i := 11) (v := ?_) rfl (by kernel_rfl) (by kernel_rfl) (by kernel_rfl) (fun _ _ _ h => h) (Or.inl ⟨by rfl, by intro w; go_simp; with_reducible rfl⟩) ?_
          simp only [Act.put, List.getElem_toArray, List.getElem_cons_succ, List.getElem_cons_zero, List.setIfInBounds_toArray, List.set_cons_succ, List.set_cons_zero]
          refine wpAny_ready (rs := [12]) (by kernel_rfl) (by simp) (AllReady.cons (o := { dst := none, op := Op.store 45 (Operand.tmp 47) (Operand.tmp 45), type := 0, pos := "text.go:22", after := #[{ on := 11, ground := Ground.data }, { on := 9, ground := Ground.data }, { on := 9, ground := Ground.chain }, { on := 0, ground := Ground.phase }, { on := 1, ground := Ground.phase }, { on := 2, ground := Ground.phase }, { on := 3, ground := Ground.phase }, { on := 4, ground := Ground.phase }, { on := 5, ground := Ground.phase }, { on := 6, ground := Ground.phase }, { on := 7, ground := Ground.phase }, { on := 8, ground := Ground.phase }, { on := 9, ground := Ground.phase }], guard := none }) rfl (fun K hK => ?_) AllReady.nil)
          have D5 := D2.out.keeps k5 (by simp)
          refine step_store_mid rfl 45 (.tmp 47) (.tmp 45) rfl b off (tab 8 (blk kk (stOf kk h0 L) (wordOf (putAt xs r (rem.take k)))).get).toArray rfl rfl (D5.there off _ (by simp [tab_length, tcells_length _ _ _ HXL.out, HO.out])) (by rw [szArr8]; simp [tab_length]) (tab_one _ _) ?_
          refine hK _ _ ?_
          clear hK K
          refine wpAny_done (by kernel_rfl) ?_ _
          have D6 : Whole (w5.setCells b off (tab 8 (blk kk (stOf kk h0 L) (wordOf (putAt xs r (rem.take k)))).get)) b T (pre ++ tcells (blk kk (stOf kk h0 L) (wordOf (putAt xs r (rem.take k)))) (putAt xs r (rem.take k)) (L.length + k)) :=
            D5.setCells (cs := tab 8 (stOf kk h0 L).get) _ off HO.out (by simp [tab_length])
          have K6 := ((Keeps.drew [b] V2).trans (k5.mono (by simp))).trans (Keeps.setCells (S := [b]) w5 (List.mem_singleton.2 rfl) off (tab 8 (blk kk (stOf kk h0 L) (wordOf (putAt xs r (rem.take k)))).get))
          have R6 := Lib.hid (R2.out.keeps K6 (notMem1 hM))
          have T6 := Lib.hid D6
          have KK6 := Lib.hid (K2.out.trans K6)
          clear D5 D6 K6 k5
          simp only [Act.put]
          go_wp2
          go_roundw
          case rel =>
            refine ⟨m + k, hmk, ?_, ?_, KK6.out⟩
            · rw [HREST.out]; simpa using R6.out
            · rw [HJOIN.out]
              refine ⟨putAt xs r (rem.take k), HHD.out, ?_⟩
              rw [HST.out, List.length_append, HCL.out, HRR.out]
              exact T6.out
          case measure => simp; omega
      · have hmod : ((L.length : Int) + (k : Int)) % 64 = ((r + k : Nat) : Int) := by have := HRR.out; omega
        have hmodt : ((L.length : Int) + (k : Int)).tmod 64 = ((r + k : Nat) : Int) := by rw [Int.tmod_eq_emod_of_nonneg (by omega)]; exact hmod
        have hne : ¬ ((r + k : Nat) : Int) = 0 := by omega
        have hlt64 : r + k < 64 := by omega
        have HST := Lib.hid (stOf_part kk h0 L (rem.take k) (by rw [HRR.out, HCL.out]; exact hlt64))
        have HHD := Lib.hid (HX.out.part (c := rem.take k) (by rw [HRR.out, HCL.out]; exact hlt64))
        clear hlt64 hfull
        generalize r + k = rk at *
        go_wp2
        go_roundw
        case rel =>
          have h2 := HVW.out.set (off + 72) (.int .i64 ((L.length + k : Nat) : Int))
          rw [set_len _ _ _ _ _ _ HXL.out HO.out, Int.natCast_add] at h2
          have k2 := Keeps.setCell (S := [b]) V (p := ⟨b, off + 72, none⟩) (by simp) (.int .i64 ((L.length : Int) + (k : Int)))
          refine ⟨m + k, hmk, ?_, ?_, KPV.out.trans k2⟩
          · rw [HREST.out]; simpa using HRDV.out.keeps k2 (notMem1 hM)
          · rw [HJOIN.out]
            refine ⟨putAt xs r (rem.take k), by have := HHD.out; rw [HRR.out] at this; exact this, ?_⟩
            rw [HST.out, List.length_append, HCL.out]
            exact h2
        case measure => simp; omega
    · have hmn : m = bs.length := by omega
      subst hmn
      rw [List.drop_length] at hr
      rw [List.take_length] at hT
      have HT' := Lib.hid hT
      have KP := Lib.hid kp
      rcases hr with ⟨rfl, _⟩ | ⟨ad, cap, rfl, _⟩
      all_goals
        clear hT kp
        go_wp2
        go_end0
        exact ⟨⟨_, rfl⟩, HT'.out, KP.out⟩
end Go.Proofs.YtlnmbfddhdjioaaDoor
