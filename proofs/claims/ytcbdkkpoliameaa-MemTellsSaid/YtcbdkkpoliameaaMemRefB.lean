/-
  The document's memory: Put.
-/
import Derived.Test.YtcbdkkpoliameaaMemRef
namespace Go.Proofs.Ytcbdkkpoliameaa
open Go.RowKit Go.Deep
set_option linter.unusedVariables false

/-- What is answered: the window as it was, RAM as it stood, or in memory that is new. -/
def DocPut (w : World) (aw : Option Addr) (wl cw rl Mr : Nat) (r' : List UInt8) (t : Int) : Ending → World → Prop := fun e w' =>
  ∃ (ar' : Option Addr) (cr' Mr' : Nat), e = .returned (.tuple #[.agg #[.slice aw wl cw, .slice ar' rl cr'], .int .i32 t]) ∧ Reads w' (.slice ar' rl cr') r' Mr' ∧ (Mr' = Mr ∨ w.heap.size ≤ Mr') ∧ Keeps [] w w'

theorem wpList_append_known {ops : Array Oper} {rest : List Oper} {o : Oper} {a : Act} {w : World} {Q : Exit → Act → World → Prop} (hgd : o.guard = none) (d s : Operand)
    (ho : o.op = .call { callee := .builtin .append, args := #[d, s], argTypes := #[22, 22] }) (u v r : Value) (w' : World) (hd : a.eval d = u) (hs : a.eval s = v)
    (hrun : ∀ ty, (Builtin.append_ #[22, 22] ty #[u, v]).run Try.prog w = .ok r w') (h : wpList Try.prog ops Q rest (a.put o.dst r) w') : wpList Try.prog ops Q (o :: rest) a w := by
  refine wpList_plain hgd fun K hK => ?_
  unfold Oper.wp
  simp [execOp, ho, resolve, invoke, builtin, hd, hs, hrun, Result.andThen]
  exact hK _ _ h

theorem sets2 (w : World) (R : Nat) (a b : Value) : Keeps [R] w ((w.setCell ⟨R, 0, none⟩ a).setCell ⟨R, 1, none⟩ b) :=
  (Keeps.setCell _ (by simp) _).trans (Keeps.setCell _ (by simp) _)

theorem Reads.lt {w : World} {v : Value} {l : List UInt8} {M : Nat} (h : Reads w v l M) (hl : l ≠ []) : M < w.heap.size := by
  obtain ⟨off, cap, _, _, hc⟩ := h.at hl
  have h0 : 0 < l.length := List.length_pos_iff.2 hl
  exact World.block_lt_of_cell? w _ (hc 0 l[0] (List.getElem?_eq_getElem h0))

section
variable {win ram : List UInt8}

set_option maxRecDepth 100000 in
set_option maxHeartbeats 4000000 in
theorem Put_any (w : World) (aw : Option Addr) (cw Mw : Nat) (ar : Option Addr) (cr Mr : Nat) (wl rl : Nat) (hwl : wl = win.length) (hrl : rl = ram.length) (hw : win.length ≤ 65536) (hr : ram.length ≤ 65536) (hr4 : 4 ≤ ram.length) (hrR : Reads w (.slice ar rl cr) ram Mr)
    (A : Nat) (a1 : A < 4294967296) (bs : List UInt8) (ab : Option Addr) (n cb Mb : Nat) (hb : Reads w (.slice ab n cb) bs Mb) (hn : n = bs.length) (hbl : bs.length < 4294967296) :
    Calls Try.prog 14 #[.agg #[.slice aw wl cw, .slice ar rl cr], .int .u64 A, .slice ab n cb] w (DocPut w aw wl cw rl Mr (pL ram A bs) (pT win ram A n)) := by
  have HPL := Lib.hid (fun (U : World) => Place_any (win := win) (ram := ram) U aw cw ar cr wl rl hwl hrl hw hr A n a1 (by omega))
  have HB := Lib.hid hb
  have HR := Lib.hid hrR
  have HWL := Lib.hid (And.intro hwl hw)
  have HRL := Lib.hid (And.intro hrl (And.intro hr hr4))
  have HN := Lib.hid (And.intro hn hbl)
  have HMR := Lib.hid (hrR.lt (by intro e; rw [e] at hr4; simp at hr4))
  have hnn : (n : Int) < 4294967296 := by omega
  obtain ⟨r', hr'⟩ : ∃ r', r' = pL ram A bs := ⟨_, rfl⟩
  obtain ⟨t, ht⟩ : ∃ t, t = pT win ram A n := ⟨_, rfl⟩
  rw [← hr', ← ht]
  have HR' := Lib.hid hr'
  have HT := Lib.hid ht
  clear hb hrR hwl hrl hw hr hr4 hn hbl hr' ht
  go_enter Try.func14, Try.ntmps14
  go_upto_region 1 with fail
  generalize hV : World.alloc _ _ = V
  have kV : Keeps [] w V := by rw [← hV]; exact (Keeps.alloc [] _ _).trans (Keeps.alloc [] _ _)
  have vs : V.heap.size = w.heap.size + 2 := by rw [← hV]; simp
  have wB : Whole V w.heap.size 31 [.slice aw wl cw, .slice ar rl cr] := by
    rw [← hV]; exact (Whole.new w 31 [.slice aw wl cw, .slice ar rl cr]).keeps (Keeps.alloc [] _ _) (by simp)
  have wR : Whole V (w.heap.size + 1) 31 [.slice none 0 0, .slice none 0 0] := by
    rw [← hV]; exact Whole.new_at _ 31 [.slice none 0 0, .slice none 0 0] _ (by simp)
  have KV := Lib.hid kV
  have WB := Lib.hid wB
  have WR := Lib.hid wR
  have VS := Lib.hid vs
  have d0 := wB.cell 0
  have d1 := wB.cell 1
  simp only [List.getElem?_cons_zero, List.getElem?_cons_succ] at d0 d1
  clear hV kV wB wR vs
  go_upto_region 2 with (first
    | (go_at_call 30; refine (HPL.out _).mono ?_; rintro e w2 ⟨k, i, rfl, hk, hcase⟩
       have HK := Lib.hid (KV.out.trans hk); have HKV := Lib.hid hk; have HCASE := Lib.hid hcase
       have WB2 := Lib.hid (WB.out.keeps hk (by simp)); have WR2 := Lib.hid (WR.out.keeps hk (by simp))
       clear hk hcase d0 d1))
  have d0 := WB2.out.cell 0
  have d1 := WB2.out.cell 1
  have g0 := WR2.out.cell 0
  have g1 := WR2.out.cell 1
  have f0 := WR2.out.frozen 0
  have f1 := WR2.out.frozen 1
  have fB := WB2.out.frozen 1
  simp only [List.getElem?_cons_zero, List.getElem?_cons_succ] at d0 d1 g0 g1
  have hW2 : w.heap.size + 2 ≤ w2.heap.size := by have := HKV.out.size; have := VS.out; omega
  have HEND := Lib.hid (show ∀ (U : World) (x y : Value), Whole U (w.heap.size + 1) 31 [.slice none 0 0, .slice none 0 0] →
      ((U.setCell ⟨w.heap.size + 1, 0, none⟩ x).setCell ⟨w.heap.size + 1, 1, none⟩ y).cell? ⟨w.heap.size + 1, 0, none⟩ = some x ∧ ((U.setCell ⟨w.heap.size + 1, 0, none⟩ x).setCell ⟨w.heap.size + 1, 1, none⟩ y).cell? ⟨w.heap.size + 1, 1, none⟩ = some y from fun U x y hU => by
    have := (hU.set 0 x).set 1 y
    exact ⟨this.cell 0, this.cell 1⟩)
  rcases HCASE.out with ⟨rfl, hin, rfl⟩ | ⟨rfl, hin, rfl⟩ | ⟨rfl, rfl, ht9⟩
  · clear HCASE HPL
    have hnr : ¬ inAt 1048576 ram A n := by have := HWL.out; unfold inAt at *; omega
    have hr' : r' = ram := by rw [HR'.out]; unfold pL; rw [← HN.out.1, if_neg hnr]
    have ht' : t = if n = 0 then 0 else -20 := by rw [HT.out]; unfold pT; rw [if_neg hnr, if_pos hin]
    have HRr := Lib.hid hr'
    clear hnr hr' hin
    generalize ((A - 4096 : Nat) : Int) = o at *
    by_cases hn0 : n = 0
    · rw [if_pos hn0] at ht'
      have hn0i : ¬ (0 : Int) < n := by omega
      have hn0' : ¬ 0 < n := by omega
      have HTT := Lib.hid ht'
      clear ht' hn0
      go_wp2
      obtain ⟨g0, g1⟩ := HEND.out w2 (.slice aw wl cw) (.slice ar rl cr) WR2.out
      exact bodyPost_ret (v := .tuple #[.agg #[.slice aw wl cw, .slice ar rl cr], .int .i32 0]) (by simp [results, Try.results14, go_sem, g0, g1]) rfl
        ⟨ar, cr, Mr, by rw [HTT.out], by rw [HRr.out]; exact (HR.out.keeps HK.out (by simp)).ifKept (sets2 _ _ _ _) (fun _ => by have := HMR.out; simp; omega), .inl rfl, HK.out.then (sets2 _ _ _ _) (fun x hx => .inr (by simp at hx; omega))⟩
    · rw [if_neg hn0] at ht'
      have hn0i : (0 : Int) < n := by omega
      have hn0' : 0 < n := by omega
      have HTT := Lib.hid ht'
      clear ht' hn0
      go_wp2
      obtain ⟨g0, g1⟩ := HEND.out w2 (.slice aw wl cw) (.slice ar rl cr) WR2.out
      exact bodyPost_ret (v := .tuple #[.agg #[.slice aw wl cw, .slice ar rl cr], .int .i32 (-20)]) (by simp [results, Try.results14, go_sem, g0, g1]) rfl
        ⟨ar, cr, Mr, by rw [HTT.out], by rw [HRr.out]; exact (HR.out.keeps HK.out (by simp)).ifKept (sets2 _ _ _ _) (fun _ => by have := HMR.out; simp; omega), .inl rfl, HK.out.then (sets2 _ _ _ _) (fun x hx => .inr (by simp at hx; omega))⟩
  · clear HCASE HPL
    have hin' := hin
    unfold inAt at hin'
    have hr' : r' = putAt ram (A - 1048576) bs := by rw [HR'.out]; unfold pL; rw [← HN.out.1, if_pos hin]
    have ht' : t = 0 := by rw [HT.out]; unfold pT; rw [if_pos hin]
    have HTT := Lib.hid ht'
    obtain ⟨o, ho⟩ : ∃ o, A - 1048576 = o := ⟨_, rfl⟩
    rw [ho] at hr' ⊢
    have HON := Lib.hid (show o + n ≤ ram.length ∧ ram.length ≤ 65536 ∧ bs.length = n from ⟨by omega, HRL.out.2.1, HN.out.1.symm⟩)
    have hon : o + n ≤ 65536 := by have := HON.out; omega
    have HRr := Lib.hid hr'
    have hne : ram ≠ [] := by intro e; have := HRL.out.2.2; rw [e] at this; simp at this
    have kA : Keeps [] w2 (w2.alloc (.cells #[] 5)) := Keeps.alloc [] _ _
    obtain ⟨a3, c3, w3, M3, hap0, hk3, hc3, hr3, hM3⟩ := run_append_b (w2.alloc (.cells #[] 5)) 22 (.slice ar rl cr) ram Mr (HR.out.keeps (HK.out.trans kA) (by simp)) (by have := HRL.out; omega) w2.heap.size (Whole.new w2 5 [])
    obtain ⟨hM3s, rfl, hrow3⟩ := hM3 hne
    rw [← HRL.out.1] at hap0 hc3
    have hk23 : Keeps [] w2 w3 := kA.then hk3 (fun x hx => .inr (by simp at hx; omega))
    have hap : ∀ ty, (Builtin.append_ #[22, 22] ty #[.slice (some ⟨w2.heap.size, 0, none⟩) 0 0, .slice ar rl cr]).run Try.prog (w2.alloc (.cells #[] 5)) = .ok (.slice (some ⟨M3, 0, none⟩) rl c3) w3 := fun ty => hap0
    have hM3l : w2.heap.size < M3 := by simp at hM3s; omega
    have HK23 := Lib.hid hk23
    have HROW3 := Lib.hid hrow3
    have hwb3 := WB2.out.keeps hk23 (by simp)
    have HWB3 := Lib.hid hwb3
    have HWR3 := Lib.hid (WR2.out.keeps hk23 (by simp))
    have b0 := hwb3.cell 0
    have b1 := hwb3.cell 1
    have bf := hwb3.frozen 1
    simp only [List.getElem?_cons_zero, List.getElem?_cons_succ] at b0 b1
    clear hin hin' hr' ht' ho hap0 hk3 hr3 hM3 hrow3 kA hk23 hM3s hwb3 hne
    have hlt2 : w.heap.size < w2.heap.size := by omega
    have hne2 : ¬ w.heap.size = w2.heap.size := by omega
    have HW2 := Lib.hid hW2
    clear hW2
    generalize hBX : w.heap.size = B at *
    have HBX := Lib.hid hBX
    clear hBX
    go_upto_region 8 with (at_builtin; refine wpList_append_known rfl _ _ rfl _ _ _ _ rfl rfl hap ?_)
    generalize hU : World.setCell w3 _ _ = U
    have kU : Keeps [] w U := by rw [← hU]; exact (HK.out.trans HK23.out).then (Keeps.setCell (S := [B]) _ (by simp) _) (fun x hx => .inr (by simp at hx; have := HBX.out; omega))
    have HKU := Lib.hid kU
    have HUB := Lib.hid (show Whole U B 31 [.slice aw wl cw, .slice (some ⟨M3, 0, none⟩) rl c3] from by rw [← hU]; exact HWB3.out.set 1 _)
    have HUR := Lib.hid (show Whole U (B + 1) 31 [.slice none 0 0, .slice none 0 0] from by rw [← hU]; exact HWR3.out.keeps (Keeps.setCell (S := [B]) _ (by simp) _) (by simp))
    have HUM := Lib.hid (show Row U M3 5 (ram.map bv) c3 from by rw [← hU]; exact HROW3.out.keeps (Keeps.setCell (S := [B]) _ (by simp) _) (by simp; omega))
    have HBAT := Lib.hid (show ∀ j, j < n → ∃ (off : Nat) (c : UInt8), ab = some ⟨Mb, off, none⟩ ∧ bs[j]? = some c ∧ w.cell? ⟨Mb, off + j, none⟩ = some (bv c) from fun j hj => by
      have hlen := HON.out.2.2
      obtain ⟨off, cp, e, _, hc⟩ := HB.out.at (by intro e; rw [e] at hlen; simp at hlen; omega)
      injection e with e _ _
      obtain ⟨c, hcc⟩ : ∃ c, bs[j]? = some c := ⟨_, List.getElem?_eq_getElem (by omega)⟩
      exact ⟨off, c, e, hcc, hc j c hcc⟩)
    clear hU kU b0 b1 bf d0 d1 g0 g1 f0 f1 fB hap HWB3 HWR3 HROW3 WB2 WR2 WB WR
    go_wp2_with fail
    go_loopw [10] (fun ix wr => ∃ k : Nat, k ≤ n ∧ ix = .int .i64 k ∧ Hid (Row wr M3 5 ((putAt ram o (bs.take k)).map bv) c3) ∧ Hid (Keeps [] w wr) ∧ Hid (Whole wr B 31 [.slice aw wl cw, .slice (some ⟨M3, 0, none⟩) rl c3]) ∧ Hid (Whole wr (B + 1) 31 [.slice none 0 0, .slice none 0 0])) (fun ix _ => n - (intOf ix).toNat)
    case atStart => exact ⟨0, by omega, rfl, Lib.hid (by rw [List.take_zero, putAt_nil _ _ (by have := HON.out; omega)]; exact HUM.out), HKU, HUB, HUR⟩
    case round =>
      obtain ⟨k, hk, rfl, hrow, hkw, hub, hur⟩ := hrel
      clear HKU HUB HUR HUM
      have d0 := hub.out.cell 0
      have d1 := hub.out.cell 1
      simp only [List.getElem?_cons_zero, List.getElem?_cons_succ] at d0 d1
      by_cases hlt : k < n
      · have hki : (k : Int) < n := by omega
        obtain ⟨off, c, rfl, hcc, hcell⟩ := HBAT.out k hlt
        obtain ⟨y, hy⟩ : ∃ y : Int, y = c.toNat := ⟨_, rfl⟩
        have q0 : wr.cell? ⟨Mb, off + k, none⟩ = some (.int .u8 y) := by rw [hy]; exact hkw.out.cell hcell (by simp)
        have hlen : (putAt ram o (bs.take k)).length = ram.length := putAt_length _ _ _ (by have := HON.out; simp; omega)
        obtain ⟨z, hz⟩ : ∃ z, wr.cell? ⟨M3, o + k, none⟩ = some z := ⟨_, hrow.out.cell (o + k) (List.getElem?_eq_getElem (by rw [List.length_map, hlen]; have := HON.out; omega))⟩
        have hfr : wr.frozen? ⟨M3, o + k, none⟩ = false := hrow.out.frozen _
        have HNR := Lib.hid (fun (U : World) (hU : Keeps [] wr U) => show Row (U.setCell ⟨M3, o + k, none⟩ (.int .u8 y)) M3 5 ((putAt ram o (bs.take (k + 1))).map bv) c3 from by
          have := (hrow.out.keeps hU (by simp)).set (o + k) (bv c)
          rw [← List.map_set, putAt_step ram o k bs c (by have := HON.out; omega) hcc] at this
          rw [hy]; exact this)
        have hok : o + k < rl := by have := HON.out; have := HRL.out.1; omega
        obtain ⟨E, hE⟩ : ∃ E : Int, (o : Int) + (k : Int) = E := ⟨_, rfl⟩
        have hEw : IntKind.i64.wrap E = E := by simp [IntKind.wrap, IntKind.signed, IntKind.bits]; omega
        have hEt : E.toNat = o + k := by omega
        have hE0 : 0 ≤ E := by omega
        have hE1 : E < rl := by omega
        clear hlen hcell hcc hy
        go_upto_region 11 with fail
        refine wp_region_tail 10 (by kernel_rfl) (by kernel_rfl) ?_
        intro wz hwz
        have kz : Keeps [] wr wz := by rw [hwz]; exact Keeps.drew _ _
        have d0 := kz.cell d0 (by simp)
        have d1 := kz.cell d1 (by simp)
        have q0 := kz.cell q0 (by simp)
        have hz := kz.cell hz (by simp)
        have hfr : wz.frozen? ⟨M3, o + k, none⟩ = false := by rw [hwz]; exact hfr
        have HNZ := Lib.hid (HNR.out wz kz)
        have HKZ := Lib.hid (hkw.out.trans kz)
        have HUBZ := Lib.hid (hub.out.keeps kz (by simp))
        have HURZ := Lib.hid (hur.out.keeps kz (by simp))
        clear hwz kz HNR
        simp only [List.take_succ_cons, List.take_zero, List.drop_succ_cons, List.drop_zero]
        repeat still_step
        refine wpStill_nil ?_
        go_wp2
        go_roundw
        case rel => exact ⟨k + 1, by omega, by go_num, HNZ, Lib.hid (HKZ.out.then (Keeps.setCell (S := [M3]) _ (by simp) _) (fun x hx => .inr (by simp at hx; have := HBX.out; omega))), Lib.hid (HUBZ.out.keeps (Keeps.setCell (S := [M3]) _ (by simp) _) (by simp; omega)), Lib.hid (HURZ.out.keeps (Keeps.setCell (S := [M3]) _ (by simp) _) (by simp; have := HW2.out; omega))⟩
        case measure => simp [intOf]; omega
      · obtain rfl : k = n := by omega
        rw [List.take_of_length_le (by have := HON.out; omega)] at hrow
        have HRW := Lib.hid hrow.out
        have g0 := hur.out.cell 0
        have g1 := hur.out.cell 1
        have f0 := hur.out.frozen 0
        have f1 := hur.out.frozen 1
        simp only [List.getElem?_cons_zero, List.getElem?_cons_succ] at g0 g1
        clear hrow
        go_wp2
        obtain ⟨g0, g1⟩ := HEND.out wr (.slice aw wl cw) (.slice (some ⟨M3, 0, none⟩) rl c3) hur.out
        have hlen : (putAt ram o bs).length = rl := by rw [putAt_length _ _ _ (by have := HON.out; omega)]; exact HRL.out.1.symm
        have hrd := HRW.out.reads
        rw [hlen] at hrd
        exact bodyPost_ret (v := .tuple #[.agg #[.slice aw wl cw, .slice (some ⟨M3, 0, none⟩) rl c3], .int .i32 0]) (by simp [results, Try.results14, go_sem, g0, g1]) rfl
          ⟨some ⟨M3, 0, none⟩, c3, M3, by rw [HTT.out], by rw [HRr.out]; exact hrd.ifKept (sets2 _ _ _ _) (fun _ => by simp; have := HW2.out; omega), .inr (by have := HBX.out; omega), hkw.out.then (sets2 _ _ _ _) (fun x hx => .inr (by simp at hx; have := HBX.out; omega))⟩
  · clear HCASE HPL
    have hnw : ¬ inAt 1048576 ram A n ∧ ¬ inAt 4096 win A n := by
      unfold tT at ht9
      split at ht9
      · cases ht9
      · next hh => exact ⟨fun h => hh (.inr h), fun h => hh (.inl h)⟩
    have hr' : r' = ram := by rw [HR'.out]; unfold pL; rw [← HN.out.1, if_neg hnw.1]
    have ht' : t = -9 := by rw [HT.out]; unfold pT; rw [if_neg hnw.1, if_neg hnw.2]
    have HRr := Lib.hid hr'
    have HTT := Lib.hid ht'
    clear hnw hr' ht' ht9
    go_wp2
    obtain ⟨g0, g1⟩ := HEND.out w2 (.slice aw wl cw) (.slice ar rl cr) WR2.out
    exact bodyPost_ret (v := .tuple #[.agg #[.slice aw wl cw, .slice ar rl cr], .int .i32 (-9)]) (by simp [results, Try.results14, go_sem, g0, g1]) rfl
      ⟨ar, cr, Mr, by rw [HTT.out], by rw [HRr.out]; exact (HR.out.keeps HK.out (by simp)).ifKept (sets2 _ _ _ _) (fun _ => by have := HMR.out; simp; omega), .inl rfl, HK.out.then (sets2 _ _ _ _) (fun x hx => .inr (by simp at hx; omega))⟩
end
end Go.Proofs.Ytcbdkkpoliameaa
