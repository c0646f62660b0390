/-
  The document's memory: Four, Store, Move, Fill.
-/
import Derived.Test.YtcbdkkpoliameaaMemRefB
namespace Go.Proofs.Ytcbdkkpoliameaa
open Go.RowKit Go.Deep
set_option linter.unusedVariables false

theorem DocPut.mk {w w' : World} {aw : Option Addr} {wl cw rl Mr : Nat} {r' : List UInt8} {t : Int} {e : Ending} (ar' : Option Addr) (cr' Mr' : Nat) (he : e = .returned (.tuple #[.agg #[.slice aw wl cw, .slice ar' rl cr'], .int .i32 t]))
    (h1 : Reads w' (.slice ar' rl cr') r' Mr') (h2 : Mr' = Mr ∨ w.heap.size ≤ Mr') (h3 : Keeps [] w w') : DocPut w aw wl cw rl Mr r' t e w' := ⟨ar', cr', Mr', he, h1, h2, h3⟩

theorem pow8_step (x j : Nat) : x / 2 ^ (8 * j) / 256 = x / 2 ^ (8 * (j + 1)) := by
  rw [Nat.div_div_eq_div_mul, show 2 ^ (8 * (j + 1)) = 2 ^ (8 * j) * 256 by rw [Nat.mul_add, Nat.pow_add]]

set_option maxRecDepth 100000 in
set_option maxHeartbeats 2000000 in
theorem Four_any (w : World) (x : Nat) (x1 : x < 4294967296) :
    Calls Try.prog 29 #[.int .u32 x] w fun e w' => ∃ u, e = .returned u ∧ w'.ownsRow w.heap.size 5 1 u 4 ((fourL x).map bv) ∧ Keeps [] w w' := by
  go_enter Try.func29, Try.ntmps29
  go_wp2_with fail
  go_loopw [0, 3, 4] (fun v0 v3 v4 wr => ∃ (j z : Nat) (ao : Option Addr) (cp : Nat), Hid (z = x / 2 ^ (8 * j)) ∧ j ≤ 4 ∧ z < 4294967296 ∧ v0 = .int .u32 z ∧ v3 = .slice ao j cp ∧ v4 = .int .i64 j ∧ Hid (wr.ownsRow w.heap.size 5 1 (.slice ao j cp) j (((fourL x).take j).map bv)) ∧ Hid (Keeps [] w wr)) (fun _ _ v4 _ => (4 - intOf v4).toNat)
  case atStart => exact ⟨0, x, none, 0, Lib.hid (by simp), by omega, x1, rfl, rfl, rfl, Lib.hid ⟨by simp, .inl ⟨rfl, rfl⟩⟩, Lib.hid (Keeps.refl _ _)⟩
  case round =>
    obtain ⟨j, z, ao, cp, hz, hj, z1, rfl, rfl, rfl, hown, hkw⟩ := hrel
    by_cases hlt : j < 4
    · have hji : (j : Int) < 4 := by omega
      have HLC := Lib.hid (show ((fourL x).take j).length = j from by rw [List.length_take, show (fourL x).length = 4 from rfl]; omega)
      have HL1 := Lib.hid (show ((fourL x).take (j + 1)).length = j + 1 from by rw [List.length_take, show (fourL x).length = 4 from rfl]; omega)
      have HOWN := Lib.hid (show ∀ V, Keeps [] wr V → V.ownsRow w.heap.size 5 1 (.slice ao j cp) ((fourL x).take j).length (((fourL x).take j).map bv) from fun V hV => by rw [HLC.out]; exact World.ownsRow.keeps hown.out hV (by simp))
      have HGET := Lib.hid (show (fourL x)[j]? = some (UInt8.ofNat z) from by rw [fourL_get x j hlt, hz.out])
      obtain ⟨y, hy⟩ : ∃ y : Int, (z : Int) % 256 = y := ⟨_, rfl⟩
      have y0 : 0 ≤ y ∧ y < 256 := by omega
      obtain ⟨y0, y1⟩ := y0
      have HY := Lib.hid (show #[Value.int .u8 y] = ([UInt8.ofNat z].map bv).toArray from by rw [List.map_cons, byte_cell, hy]; rfl)
      obtain ⟨z2, hz2⟩ : ∃ z2, z2 = z / 256 := ⟨_, rfl⟩
      obtain ⟨zi, hzi⟩ : ∃ zi : Int, (z : Int) / 256 = zi := ⟨_, rfl⟩
      have HZ2 := Lib.hid (show zi = (z2 : Int) ∧ z2 = x / 2 ^ (8 * (j + 1)) ∧ z2 < 4294967296 from ⟨by omega, by rw [hz2, hz.out, pow8_step], by omega⟩)
      have zi0 : 0 ≤ zi ∧ zi < 4294967296 := by omega
      obtain ⟨zi0, zi1⟩ := zi0
      clear hz2
      go_wp2_with (first | (at_builtin; refine wpList_append_reads rfl _ _ rfl w.heap.size _ ((fourL x).take j) rfl (HOWN.out _ (Keeps.alloc [] _ _)) _ [UInt8.ofNat z] wr.heap.size rfl (Reads.lit wr [UInt8.ofNat z] _ _ 1 (0, 0) HY.out rfl) (by rw [HLC.out]; simp; omega) (by have := hkw.out.size; simp; omega) ?_; intro v3 w3 ho3 hk3; rw [take_snoc _ _ _ HGET.out, HL1.out] at ho3; have HO3 := Lib.hid ho3; have HK3 := Lib.hid ((Keeps.alloc (Value.slice ao j cp).ownBlock.toList wr _).trans hk3); obtain ⟨a3, c3, rfl⟩ := owns_shape2 ho3; clear ho3 hk3))
      go_roundw
      case rel => exact ⟨j + 1, z2, a3, c3, Lib.hid HZ2.out.2.1, by omega, HZ2.out.2.2, by rw [HZ2.out.1], rfl, by go_num, Lib.hid HO3.out, Lib.hid (hkw.out.then HK3.out (fun q hq => .inr (by have := (hown.out.lt q (by simpa using hq)).1; omega)))⟩
      case measure => simp [intOf]; omega
    · obtain rfl : j = 4 := by omega
      go_wp2
      go_ret
      exact ⟨_, rfl, hown.out, hkw.out⟩

theorem set2_cells {U : World} {R : Nat} {a b : Value} (x y : Value) (hU : Whole U R 31 [a, b]) :
    ((U.setCell ⟨R, 0, none⟩ x).setCell ⟨R, 1, none⟩ y).cell? ⟨R, 0, none⟩ = some x ∧ ((U.setCell ⟨R, 0, none⟩ x).setCell ⟨R, 1, none⟩ y).cell? ⟨R, 1, none⟩ = some y := by
  have := (hU.set 0 x).set 1 y
  exact ⟨this.cell 0, this.cell 1⟩

section
variable {win ram : List UInt8}

set_option maxRecDepth 100000 in
set_option maxHeartbeats 4000000 in
theorem r9Store_any (w : World) (aw : Option Addr) (cw Mw : Nat) (ar : Option Addr) (cr Mr : Nat) (wl rl : Nat) (hwl : wl = win.length) (hrl : rl = ram.length) (hw : win.length ≤ 65536) (hr : ram.length ≤ 65536) (hr4 : 4 ≤ ram.length) (hwR : Reads w (.slice aw wl cw) win Mw) (hrR : Reads w (.slice ar rl cr) ram Mr)
    (A : Nat) (a1 : A < 4294967296) (x : Nat) (x1 : x < 4294967296) :
    Calls Try.prog 12 #[.agg #[.slice aw wl cw, .slice ar rl cr], .int .u32 A, .int .u32 x] w (DocPut w aw wl cw rl Mr (storeL ram A x) (storeT win ram A)) := by
  have HR := Lib.hid hrR
  have HMR := Lib.hid (hrR.lt (by intro e; rw [e] at hr4; simp at hr4))
  have HPUT := Lib.hid (fun (U : World) (hU : Keeps [] w U) (ab : Option Addr) (cb Mb : Nat) (hb : Reads U (.slice ab 4 cb) (fourL x) Mb) => Put_any (win := win) (ram := ram) U aw cw Mw ar cr Mr wl rl hwl hrl hw hr hr4 (hrR.keeps hU (by simp)) A a1 (fourL x) ab 4 cb Mb hb rfl (by show 4 < _; decide))
  have HF := Lib.hid (fun (U : World) => Four_any U x x1)
  unfold storeL storeT
  by_cases ha : A % 4 = 0
  · rw [if_pos ha, if_pos ha]
    have ha4 : (A : Int) % 4 = 0 := by omega
    obtain ⟨r', hr'⟩ : ∃ r', r' = pL ram A (fourL x) := ⟨_, rfl⟩
    obtain ⟨t, ht⟩ : ∃ t, t = pT win ram A 4 := ⟨_, rfl⟩
    rw [← hr', ← ht] at HPUT ⊢
    clear hr' ht ha hrR hwR hwl hrl hw hr hr4
    go_enter Try.func12, Try.ntmps12
    go_upto_region 1 with fail
    generalize hV : World.alloc _ _ = V
    have kV : Keeps [] w V := by rw [← hV]; exact (Keeps.alloc [] _ _).trans (Keeps.alloc [] _ _)
    have vs : V.heap.size = w.heap.size + 2 := by rw [← hV]; simp
    have wB : Whole V w.heap.size 31 [.slice aw wl cw, .slice ar rl cr] := by
      rw [← hV]; exact (Whole.new w 31 [.slice aw wl cw, .slice ar rl cr]).keeps (Keeps.alloc [] _ _) (by simp)
    have wR : Whole V (w.heap.size + 1) 31 [.slice none 0 0, .slice none 0 0] := by
      rw [← hV]; exact Whole.new_at _ 31 [.slice none 0 0, .slice none 0 0] _ (by simp)
    have KV := Lib.hid kV
    have WB := Lib.hid wB
    have WR := Lib.hid wR
    have VS := Lib.hid vs
    have d0 := wB.cell 0
    have d1 := wB.cell 1
    have g0 := wR.cell 0
    have g1 := wR.cell 1
    have f0 := wR.frozen 0
    have f1 := wR.frozen 1
    simp only [List.getElem?_cons_zero, List.getElem?_cons_succ] at d0 d1 g0 g1
    clear hV kV wB wR vs
    go_upto_region 3 with fail
    have KD := Lib.hid (Keeps.drew [] V)
    have hAw : IntKind.u64.wrap (A : Int) = (A : Int) := by simp [IntKind.wrap, IntKind.signed, IntKind.bits]; omega
    have SF := Lib.hid (show ∀ U, Keeps [w.heap.size + 1] V U → (U.cell? ⟨w.heap.size, 0, none⟩ = some (.slice aw wl cw) ∧ U.cell? ⟨w.heap.size, 1, none⟩ = some (.slice ar rl cr)) from fun U hU => ⟨hU.cell d0 (by simp), hU.cell d1 (by simp)⟩)
    have RF := Lib.hid (show ∀ U, Keeps [] V U → (U.cell? ⟨w.heap.size + 1, 0, none⟩ = some (.slice none 0 0) ∧ U.cell? ⟨w.heap.size + 1, 1, none⟩ = some (.slice none 0 0) ∧ U.frozen? ⟨w.heap.size + 1, 0, none⟩ = false ∧ U.frozen? ⟨w.heap.size + 1, 1, none⟩ = false) from fun U hU => ⟨hU.cell g0 (by simp), hU.cell g1 (by simp), (WR.out.keeps hU (by simp)).frozen 0, (WR.out.keeps hU (by simp)).frozen 1⟩)
    clear d0 d1 g0 g1 f0 f1
    go_region_held3 (fun w' => w'.cell? ⟨w.heap.size, 0, none⟩ = some (.slice aw wl cw) ∧ w'.cell? ⟨w.heap.size, 1, none⟩ = some (.slice ar rl cr))
      (first
        | exact SF.out _ ((HKP.out.mono (by simp)).trans (sets2 _ _ _ _))
        | exact SF.out _ (HKP.out.mono (by simp))
        | exact SF.out _ (HKF.out.mono (by simp))
        | exact SF.out _ (KD.out.mono (by simp)))
      (first
        | (go_at_call 14; refine (HPUT.out _ (KV.out.trans HKF.out) _ _ _ HRD.out).mono ?_; rintro e w4 ⟨ar', cr', Mr', rfl, hrp, hMp, hkp⟩
           have HRP := Lib.hid hrp; have HMP := Lib.hid hMp; have HKP := Lib.hid (HKF.out.trans hkp)
           obtain ⟨g0, g1, f0, f1⟩ := RF.out _ HKP.out
           clear hrp hMp hkp)
        | (go_at_call 29; refine (HF.out _).mono ?_; rintro e w3 ⟨u, rfl, ho, hk⟩
           obtain ⟨b, cb, rfl, hbb, hrow⟩ := owns_some ho (by decide)
           have HKF := Lib.hid (KD.out.trans hk)
           have HRD := Lib.hid (show Reads w3 (.slice (some ⟨b, 0, none⟩) 4 cb) (fourL x) b from hrow.reads)
           clear ho hk hbb hrow))
    go_wp2
    obtain ⟨g0, g1⟩ := set2_cells (.slice aw wl cw) (.slice ar' rl cr') (WR.out.keeps HKP.out (by simp))
    have hlt := (WR.out.keeps HKP.out (by simp)).lt
    exact bodyPost_ret (v := .tuple #[.agg #[.slice aw wl cw, .slice ar' rl cr'], .int .i32 t]) (by simp [results, Try.results12, go_sem, g0, g1]) rfl
      (DocPut.mk ar' cr' Mr' rfl (HRP.out.ifKept (sets2 _ _ _ _) (fun _ => by
        have h3 := HKF.out.size; have h4 := VS.out; have h5 := HMR.out
        simp
        rcases HMP.out with h | h <;> omega)) (by have h3 := HKF.out.size; have h4 := VS.out; rcases HMP.out with h | h; exact .inl h; exact .inr (by omega)) ((KV.out.trans HKP.out).then (sets2 _ _ _ _) (fun x hx => .inr (by simp at hx; omega))))
  · rw [if_neg ha, if_neg ha]
    have ha4 : ¬ (A : Int) % 4 = 0 := by omega
    clear ha hrR hwR hwl hrl hw hr hr4
    go_enter Try.func12, Try.ntmps12
    go_upto_region 1 with fail
    generalize hV : World.alloc _ _ = V
    have kV : Keeps [] w V := by rw [← hV]; exact (Keeps.alloc [] _ _).trans (Keeps.alloc [] _ _)
    have vs : V.heap.size = w.heap.size + 2 := by rw [← hV]; simp
    have wB : Whole V w.heap.size 31 [.slice aw wl cw, .slice ar rl cr] := by
      rw [← hV]; exact (Whole.new w 31 [.slice aw wl cw, .slice ar rl cr]).keeps (Keeps.alloc [] _ _) (by simp)
    have wR : Whole V (w.heap.size + 1) 31 [.slice none 0 0, .slice none 0 0] := by
      rw [← hV]; exact Whole.new_at _ 31 [.slice none 0 0, .slice none 0 0] _ (by simp)
    have KV := Lib.hid kV
    have WB := Lib.hid wB
    have WR := Lib.hid wR
    have VS := Lib.hid vs
    have d0 := wB.cell 0
    have d1 := wB.cell 1
    have g0 := wR.cell 0
    have g1 := wR.cell 1
    have f0 := wR.frozen 0
    have f1 := wR.frozen 1
    simp only [List.getElem?_cons_zero, List.getElem?_cons_succ] at d0 d1 g0 g1
    clear hV kV wB wR vs
    go_wp2
    obtain ⟨g0, g1⟩ := set2_cells (.slice aw wl cw) (.slice ar rl cr) WR.out
    exact bodyPost_ret (v := .tuple #[.agg #[.slice aw wl cw, .slice ar rl cr], .int .i32 (-23)]) (by simp [results, Try.results12, go_sem, g0, g1]) rfl
      (DocPut.mk ar cr Mr rfl ((HR.out.keeps KV.out (by simp)).ifKept (sets2 _ _ _ _) (fun _ => by have := HMR.out; simp; omega)) (.inl rfl) (KV.out.then (sets2 _ _ _ _) (fun x hx => .inr (by simp at hx; omega))))
end
end Go.Proofs.Ytcbdkkpoliameaa
