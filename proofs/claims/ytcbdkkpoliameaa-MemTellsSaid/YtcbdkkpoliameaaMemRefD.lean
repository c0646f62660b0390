/-
  The document's memory: Move, Fill.
-/
import Derived.Test.YtcbdkkpoliameaaMemRefC
namespace Go.Proofs.Ytcbdkkpoliameaa
open Go.RowKit Go.Deep
set_option linter.unusedVariables false

section
variable {win ram : List UInt8}

theorem owns_reads0 {w : World} {base n : Nat} {v : Value} {l : List UInt8} (h : w.ownsRow base 5 1 v n (l.map bv)) : ∃ M, Reads w v l M := by
  have h' := h
  obtain ⟨hl, h2⟩ := h
  rw [List.length_map, Nat.mul_one] at hl
  rcases h2 with ⟨rfl, rfl⟩ | ⟨g, cap, cur, rfl, _, hg, _⟩
  · obtain rfl : l = [] := List.eq_nil_of_length_eq_zero hl
    exact ⟨0, Reads.nil _ _⟩
  · have hr := (Row.ofOwnsAt h').reads
    rw [hl] at hr
    exact ⟨g, hr⟩

set_option maxRecDepth 100000 in
set_option maxHeartbeats 4000000 in
theorem r9Move_any (w : World) (aw : Option Addr) (cw Mw : Nat) (ar : Option Addr) (cr Mr : Nat) (wl rl : Nat) (hwl : wl = win.length) (hrl : rl = ram.length) (hw : win.length ≤ 65536) (hr : ram.length ≤ 65536) (hr4 : 4 ≤ ram.length) (hwR : Reads w (.slice aw wl cw) win Mw) (hrR : Reads w (.slice ar rl cr) ram Mr)
    (A : Nat) (a1 : A < 4294967296) (B n : Nat) (b1 : B < 4294967296) (n1 : n < 4294967296) :
    Calls Try.prog 16 #[.agg #[.slice aw wl cw, .slice ar rl cr], .int .u32 A, .int .u32 B, .int .u32 n] w (DocPut w aw wl cw rl Mr (moveL win ram A B n) (moveT win ram A B n)) := by
  have HR := Lib.hid hrR
  have HMR := Lib.hid (hrR.lt (by intro e; rw [e] at hr4; simp at hr4))
  have HGET := Lib.hid (fun (U : World) (hU : Keeps [] w U) => Get_any (win := win) (ram := ram) U aw cw Mw ar cr Mr wl rl hwl hrl hw hr (hwR.keeps hU (by simp)) (hrR.keeps hU (by simp)) A n a1 n1)
  have HPUT := Lib.hid (fun (U : World) (hU : Keeps [] w U) (bs : List UInt8) (ab : Option Addr) (k cb Mb : Nat) (hb : Reads U (.slice ab k cb) bs Mb) (hk : k = bs.length) (hl : bs.length < 4294967296) => Put_any (win := win) (ram := ram) U aw cw Mw ar cr Mr wl rl hwl hrl hw hr hr4 (hrR.keeps hU (by simp)) B b1 bs ab k cb Mb hb hk hl)
  unfold moveL moveT
  by_cases h0 : tT win ram A n = 0
  · rw [if_pos h0, if_pos h0]
    have hgl := gL_length h0
    rw [h0, hgl] at HGET
    obtain ⟨G, hG⟩ : ∃ G, G = gL win ram A n := ⟨_, rfl⟩
    rw [← hG] at HGET hgl ⊢
    obtain ⟨r', hr'⟩ : ∃ r', r' = pL ram B G := ⟨_, rfl⟩
    obtain ⟨t, ht⟩ : ∃ t, t = pT win ram B n := ⟨_, rfl⟩
    have HP2 := Lib.hid (fun (U : World) (hU : Keeps [] w U) (ab : Option Addr) (cb Mb : Nat) (hb : Reads U (.slice ab n cb) G Mb) => HPUT.out U hU G ab n cb Mb hb hgl.symm (by omega))
    rw [← hr', ← ht] at HP2 ⊢
    clear HPUT hG h0 hr' ht hrR hwR hwl hrl hw hr hr4
    go_enter Try.func16, Try.ntmps16
    go_upto_region 1 with fail
    generalize hV : World.alloc _ _ = V
    have kV : Keeps [] w V := by rw [← hV]; exact (Keeps.alloc [] _ _).trans (Keeps.alloc [] _ _)
    have vs : V.heap.size = w.heap.size + 2 := by rw [← hV]; simp
    have wB : Whole V w.heap.size 31 [.slice aw wl cw, .slice ar rl cr] := by
      rw [← hV]; exact (Whole.new w 31 [.slice aw wl cw, .slice ar rl cr]).keeps (Keeps.alloc [] _ _) (by simp)
    have wR : Whole V (w.heap.size + 1) 31 [.slice none 0 0, .slice none 0 0] := by
      rw [← hV]; exact Whole.new_at _ 31 [.slice none 0 0, .slice none 0 0] _ (by simp)
    have KV := Lib.hid kV
    have WB := Lib.hid wB
    have WR := Lib.hid wR
    have VS := Lib.hid vs
    have d0 := wB.cell 0
    have d1 := wB.cell 1
    have g0 := wR.cell 0
    have g1 := wR.cell 1
    have f0 := wR.frozen 0
    have f1 := wR.frozen 1
    simp only [List.getElem?_cons_zero, List.getElem?_cons_succ] at d0 d1 g0 g1
    clear hV kV wB wR vs
    go_upto_region 4 with (first
      | (go_at_call 32; refine (HGET.out _ KV.out).mono ?_; rintro e w2 ⟨u, rfl, ho, hk⟩
         have HOG := Lib.hid ho; have HK2 := Lib.hid (KV.out.trans hk); have HKV2 := Lib.hid hk
         have hwr := WR.out.keeps hk (by simp); have hwb := WB.out.keeps hk (by simp)
         have WR2 := Lib.hid hwr; have WB2 := Lib.hid hwb
         replace d0 := hk.cell d0 (by simp); replace d1 := hk.cell d1 (by simp); replace g0 := hk.cell g0 (by simp); replace g1 := hk.cell g1 (by simp)
         have f0 := hwr.frozen 0; have f1 := hwr.frozen 1
         obtain ⟨ao, cp, rfl⟩ := owns_shape2 ho
         clear ho hk hwr hwb))
    have HRD := Lib.hid (owns_reads0 HOG.out)
    go_wp2_with (first
      | (go_at_call 14; refine (HP2.out _ HK2.out _ _ HRD.out.choose HRD.out.choose_spec).mono ?_; rintro e w4 ⟨ar', cr', Mr', rfl, hrp, hMp, hkp⟩
         have HRP := Lib.hid hrp; have HMP := Lib.hid hMp; have HKP0 := Lib.hid HKV2.out; have HK4 := Lib.hid (HK2.out.trans hkp)
         replace g0 := hkp.cell g0 (by simp); replace g1 := hkp.cell g1 (by simp)
         have hwr := WR2.out.keeps hkp (by simp)
         have WR4 := Lib.hid hwr
         have f0 := hwr.frozen 0; have f1 := hwr.frozen 1
         clear hrp hMp hkp hwr)
      | fail)
    obtain ⟨g0, g1⟩ := set2_cells (.slice aw wl cw) (.slice ar' rl cr') WR4.out
    exact bodyPost_ret (v := .tuple #[.agg #[.slice aw wl cw, .slice ar' rl cr'], .int .i32 t]) (by simp [results, Try.results16, go_sem, g0, g1]) rfl
      (DocPut.mk ar' cr' Mr' rfl (HRP.out.ifKept (sets2 _ _ _ _) (fun _ => by
        have h3 := HKP0.out.size; have h4 := VS.out; have h5 := HMR.out
        simp
        rcases HMP.out with h | h <;> omega)) (by have h3 := HKP0.out.size; have h4 := VS.out; rcases HMP.out with h | h; exact .inl h; exact .inr (by omega)) (HK4.out.then (sets2 _ _ _ _) (fun x hx => .inr (by simp at hx; omega))))
  · rw [if_neg h0, if_neg h0]
    rw [gL_none h0, (tT_or win ram A n).resolve_left h0] at HGET
    clear HPUT h0 hrR hwR hwl hrl hw hr hr4
    go_enter Try.func16, Try.ntmps16
    go_upto_region 1 with fail
    generalize hV : World.alloc _ _ = V
    have kV : Keeps [] w V := by rw [← hV]; exact (Keeps.alloc [] _ _).trans (Keeps.alloc [] _ _)
    have vs : V.heap.size = w.heap.size + 2 := by rw [← hV]; simp
    have wB : Whole V w.heap.size 31 [.slice aw wl cw, .slice ar rl cr] := by
      rw [← hV]; exact (Whole.new w 31 [.slice aw wl cw, .slice ar rl cr]).keeps (Keeps.alloc [] _ _) (by simp)
    have wR : Whole V (w.heap.size + 1) 31 [.slice none 0 0, .slice none 0 0] := by
      rw [← hV]; exact Whole.new_at _ 31 [.slice none 0 0, .slice none 0 0] _ (by simp)
    have KV := Lib.hid kV
    have WB := Lib.hid wB
    have WR := Lib.hid wR
    have VS := Lib.hid vs
    have d0 := wB.cell 0
    have d1 := wB.cell 1
    have g0 := wR.cell 0
    have g1 := wR.cell 1
    have f0 := wR.frozen 0
    have f1 := wR.frozen 1
    simp only [List.getElem?_cons_zero, List.getElem?_cons_succ] at d0 d1 g0 g1
    clear hV kV wB wR vs
    go_wp2_with (first
      | (go_at_call 32; refine (HGET.out _ KV.out).mono ?_; rintro e w2 ⟨u, rfl, ho, hk⟩
         have HOG := Lib.hid ho; have HK2 := Lib.hid (KV.out.trans hk); have HKV2 := Lib.hid hk
         have hwr := WR.out.keeps hk (by simp); have hwb := WB.out.keeps hk (by simp)
         have WR2 := Lib.hid hwr; have WB2 := Lib.hid hwb
         replace d0 := hk.cell d0 (by simp); replace d1 := hk.cell d1 (by simp); replace g0 := hk.cell g0 (by simp); replace g1 := hk.cell g1 (by simp)
         have f0 := hwr.frozen 0; have f1 := hwr.frozen 1
         obtain ⟨ao, cp, rfl⟩ := owns_shape2 ho
         clear ho hk hwr hwb)
      | fail)
    obtain ⟨g0, g1⟩ := set2_cells (.slice aw wl cw) (.slice ar rl cr) WR2.out
    exact bodyPost_ret (v := .tuple #[.agg #[.slice aw wl cw, .slice ar rl cr], .int .i32 (-9)]) (by simp [results, Try.results16, go_sem, g0, g1]) rfl
      (DocPut.mk ar cr Mr rfl ((HR.out.keeps HK2.out (by simp)).ifKept (sets2 _ _ _ _) (fun _ => by have := HMR.out; simp; omega)) (.inl rfl) (HK2.out.then (sets2 _ _ _ _) (fun x hx => .inr (by simp at hx; omega))))

set_option maxRecDepth 100000 in
set_option maxHeartbeats 4000000 in
theorem r9Fill_any (w : World) (aw : Option Addr) (cw Mw : Nat) (ar : Option Addr) (cr Mr : Nat) (wl rl : Nat) (hwl : wl = win.length) (hrl : rl = ram.length) (hw : win.length ≤ 65536) (hr : ram.length ≤ 65536) (hr4 : 4 ≤ ram.length) (hwR : Reads w (.slice aw wl cw) win Mw) (hrR : Reads w (.slice ar rl cr) ram Mr)
    (A : Nat) (a1 : A < 4294967296) (n : Nat) (n1 : n < 4294967296) (c : UInt8) (ci : Int) (hci : ci = c.toNat) :
    Calls Try.prog 18 #[.agg #[.slice aw wl cw, .slice ar rl cr], .int .u32 A, .int .u32 n, .int .u8 ci] w (DocPut w aw wl cw rl Mr (pL ram A (List.replicate n c)) (pT win ram A n)) := by
  have HR := Lib.hid hrR
  have HMR := Lib.hid (hrR.lt (by intro e; rw [e] at hr4; simp at hr4))
  have HCI := Lib.hid hci
  have HGET := Lib.hid (fun (U : World) (hU : Keeps [] w U) => Get_any (win := win) (ram := ram) U aw cw Mw ar cr Mr wl rl hwl hrl hw hr (hwR.keeps hU (by simp)) (hrR.keeps hU (by simp)) A n a1 n1)
  have HPUT := Lib.hid (fun (U : World) (hU : Keeps [] w U) (bs : List UInt8) (ab : Option Addr) (k cb Mb : Nat) (hb : Reads U (.slice ab k cb) bs Mb) (hk : k = bs.length) (hl : bs.length < 4294967296) => Put_any (win := win) (ram := ram) U aw cw Mw ar cr Mr wl rl hwl hrl hw hr hr4 (hrR.keeps hU (by simp)) A a1 bs ab k cb Mb hb hk hl)
  by_cases h0 : tT win ram A n = 0
  · have hgl := gL_length h0
    rw [h0, hgl] at HGET
    obtain ⟨G, hG⟩ : ∃ G, G = gL win ram A n := ⟨_, rfl⟩
    rw [← hG] at HGET hgl
    obtain ⟨r', hr'⟩ : ∃ r', r' = pL ram A (List.replicate n c) := ⟨_, rfl⟩
    obtain ⟨t, ht⟩ : ∃ t, t = pT win ram A n := ⟨_, rfl⟩
    have HP2 := Lib.hid (fun (U : World) (hU : Keeps [] w U) (ab : Option Addr) (cb Mb : Nat) (hb : Reads U (.slice ab n cb) (List.replicate n c) Mb) => HPUT.out U hU (List.replicate n c) ab n cb Mb hb (by simp) (by simpa using n1))
    rw [← hr', ← ht] at HP2 ⊢
    have HGL := Lib.hid hgl
    clear HPUT hG h0 hr' ht hrR hwR hwl hrl hw hr hr4 hci hgl
    go_enter Try.func18, Try.ntmps18
    go_upto_region 1 with fail
    generalize hV : World.alloc _ _ = V
    have kV : Keeps [] w V := by rw [← hV]; exact (Keeps.alloc [] _ _).trans (Keeps.alloc [] _ _)
    have vs : V.heap.size = w.heap.size + 2 := by rw [← hV]; simp
    have wB : Whole V w.heap.size 31 [.slice aw wl cw, .slice ar rl cr] := by
      rw [← hV]; exact (Whole.new w 31 [.slice aw wl cw, .slice ar rl cr]).keeps (Keeps.alloc [] _ _) (by simp)
    have wR : Whole V (w.heap.size + 1) 31 [.slice none 0 0, .slice none 0 0] := by
      rw [← hV]; exact Whole.new_at _ 31 [.slice none 0 0, .slice none 0 0] _ (by simp)
    have KV := Lib.hid kV
    have WB := Lib.hid wB
    have WR := Lib.hid wR
    have VS := Lib.hid vs
    have d0 := wB.cell 0
    have d1 := wB.cell 1
    have g0 := wR.cell 0
    have g1 := wR.cell 1
    have f0 := wR.frozen 0
    have f1 := wR.frozen 1
    simp only [List.getElem?_cons_zero, List.getElem?_cons_succ] at d0 d1 g0 g1
    clear hV kV wB wR vs
    go_upto_region 4 with (first
      | (go_at_call 32; refine (HGET.out _ KV.out).mono ?_; rintro e w2 ⟨u, rfl, ho, hk⟩
         have HOG := Lib.hid ho; have HK2 := Lib.hid (KV.out.trans hk); have HKV2 := Lib.hid hk
         have hwr := WR.out.keeps hk (by simp); have hwb := WB.out.keeps hk (by simp)
         have WR2 := Lib.hid hwr; have WB2 := Lib.hid hwb
         replace d0 := hk.cell d0 (by simp); replace d1 := hk.cell d1 (by simp); replace g0 := hk.cell g0 (by simp); replace g1 := hk.cell g1 (by simp)
         have f0 := hwr.frozen 0; have f1 := hwr.frozen 1
         obtain ⟨ao, cp, rfl⟩ := owns_shape2 ho
         clear ho hk hwr hwb))
    by_cases hn0 : n = 0
    · subst hn0
      have HRD := Lib.hid (show Reads w2 (.slice ao 0 cp) (List.replicate 0 c) 0 from by
        obtain ⟨M, hM⟩ := owns_reads0 HOG.out
        have : G = [] := List.eq_nil_of_length_eq_zero HGL.out
        rw [this] at hM
        exact hM.anyBlock 0)
      go_wp2_with fail
      go_loopw [12] (fun ix wr => ix = .int .i64 0 ∧ wr = w2) (fun _ _ => 0)
      case atStart => exact ⟨rfl, rfl⟩
      case round =>
        obtain ⟨rfl, rfl⟩ := hrel
        go_wp2_with (first
          | (go_at_call 14; refine (HP2.out _ HK2.out _ _ _ HRD.out).mono ?_; rintro e w4 ⟨ar', cr', Mr', rfl, hrp, hMp, hkp⟩
             have HRP := Lib.hid hrp; have HMP := Lib.hid hMp; have HKP0 := Lib.hid HKV2.out; have HK4 := Lib.hid (HK2.out.trans hkp)
             replace g0 := hkp.cell g0 (by simp); replace g1 := hkp.cell g1 (by simp)
             have hwr := WR2.out.keeps hkp (by simp)
             have WR4 := Lib.hid hwr
             have f0 := hwr.frozen 0; have f1 := hwr.frozen 1
             clear hrp hMp hkp hwr)
          | fail)
        obtain ⟨g0, g1⟩ := set2_cells (.slice aw wl cw) (.slice ar' rl cr') WR4.out
        exact bodyPost_ret (v := .tuple #[.agg #[.slice aw wl cw, .slice ar' rl cr'], .int .i32 t]) (by simp [results, Try.results18, go_sem, g0, g1]) rfl
          (DocPut.mk ar' cr' Mr' rfl (HRP.out.ifKept (sets2 _ _ _ _) (fun _ => by
            have h3 := HKP0.out.size; have h4 := VS.out; have h5 := HMR.out
            simp
            rcases HMP.out with h | h <;> omega)) (by have h3 := HKP0.out.size; have h4 := VS.out; rcases HMP.out with h | h; exact .inl h; exact .inr (by omega)) (HK4.out.then (sets2 _ _ _ _) (fun x hx => .inr (by simp at hx; omega))))
    · have hnp : 0 < n := by omega
      obtain ⟨bb, cb, hsl, hbb, hrow⟩ := owns_some HOG.out hnp
      injection hsl with e1 _ e2
      subst e1 e2
      have HROW := Lib.hid hrow
      have HBB := Lib.hid hbb
      clear hrow hbb
      go_wp2_with fail
      go_loopw [12] (fun ix wr => ∃ j : Nat, j ≤ n ∧ ix = .int .i64 j ∧ Hid (Row wr bb 5 ((putAt G 0 ((List.replicate n c).take j)).map bv) cp) ∧ Hid (Keeps [bb] w2 wr)) (fun ix _ => n - (intOf ix).toNat)
      case atStart => exact ⟨0, by omega, rfl, Lib.hid (by rw [List.take_zero, putAt_nil _ _ (by omega)]; exact HROW.out), Lib.hid (Keeps.refl _ _)⟩
      case round =>
        obtain ⟨j, hj, rfl, hrow, hkw⟩ := hrel
        by_cases hlt : j < n
        · have hji : (j : Int) < n := by omega
          have hlen : (putAt G 0 ((List.replicate n c).take j)).length = n := by rw [putAt_length _ _ _ (by simp; rw [HGL.out]; omega), HGL.out]
          obtain ⟨z, hz⟩ : ∃ z, wr.cell? ⟨bb, j, none⟩ = some z := ⟨_, hrow.out.cell j (List.getElem?_eq_getElem (by rw [List.length_map, hlen]; exact hlt))⟩
          have hfr : wr.frozen? ⟨bb, j, none⟩ = false := hrow.out.frozen _
          have HNR := Lib.hid (show Row (wr.setCell ⟨bb, j, none⟩ (.int .u8 ci)) bb 5 ((putAt G 0 ((List.replicate n c).take (j + 1))).map bv) cp from by
            have := hrow.out.set j (bv c)
            rw [← List.map_set] at this
            have h2 := putAt_step G 0 j (List.replicate n c) c (by simp; rw [HGL.out]; omega) (by rw [List.getElem?_replicate, if_pos hlt])
            rw [Nat.zero_add] at h2
            rw [h2] at this
            rw [HCI.out]; exact this)
          clear hlen
          go_wp2
          go_roundw
          case rel => exact ⟨j + 1, by omega, by go_num, HNR, Lib.hid (hkw.out.trans (Keeps.setCell _ (by simp) _))⟩
          case measure => simp [intOf]; omega
        · obtain rfl : j = n := by omega
          have hfin : putAt G 0 ((List.replicate j c).take j) = List.replicate j c := by
            rw [List.take_of_length_le (by simp)]
            unfold putAt
            rw [List.drop_of_length_le (by simp; rw [HGL.out]; omega)]
            simp
          rw [hfin] at hrow
          have HRD := Lib.hid (show Reads wr (.slice (some ⟨bb, 0, none⟩) j cp) (List.replicate j c) bb from by have := hrow.out.reads; simpa using this)
          have hVb := HBB.out
          have hVs := VS.out
          have HKW := Lib.hid (show Keeps [] w wr from HK2.out.then hkw.out (fun x hx => .inr (by simp at hx; omega)))
          have hwR := WR2.out.keeps hkw.out (by simp; omega)
          have HWRR := Lib.hid hwR
          have hwB := WB2.out.keeps hkw.out (by simp; omega)
          have HSV := Lib.hid (show V.heap.size ≤ wr.heap.size from by have := HKV2.out.size; have := hkw.out.size; omega)
          have d0 := hwB.cell 0; have d1 := hwB.cell 1
          have g0 := hwR.cell 0; have g1 := hwR.cell 1
          simp only [List.getElem?_cons_zero, List.getElem?_cons_succ] at d0 d1 g0 g1
          clear hfin hrow hVb hVs hwR hwB
          go_wp2_with (first
            | (go_at_call 14; refine (HP2.out _ HKW.out _ _ _ HRD.out).mono ?_; rintro e w4 ⟨ar', cr', Mr', rfl, hrp, hMp, hkp⟩
               have HRP := Lib.hid hrp; have HMP := Lib.hid hMp; have HKP0 := Lib.hid HSV.out; have HK4 := Lib.hid (HKW.out.trans hkp)
               replace g0 := hkp.cell g0 (by simp); replace g1 := hkp.cell g1 (by simp)
               have hwr := HWRR.out.keeps hkp (by simp)
               have WR4 := Lib.hid hwr
               have f0 := hwr.frozen 0; have f1 := hwr.frozen 1
               clear hrp hMp hkp hwr)
            | fail)
          obtain ⟨g0, g1⟩ := set2_cells (.slice aw wl cw) (.slice ar' rl cr') WR4.out
          exact bodyPost_ret (v := .tuple #[.agg #[.slice aw wl cw, .slice ar' rl cr'], .int .i32 t]) (by simp [results, Try.results18, go_sem, g0, g1]) rfl
            (DocPut.mk ar' cr' Mr' rfl (HRP.out.ifKept (sets2 _ _ _ _) (fun _ => by
              have h3 := HKP0.out; have h4 := VS.out; have h5 := HMR.out
              simp
              rcases HMP.out with h | h <;> omega)) (by have h3 := HKP0.out; have h4 := VS.out; rcases HMP.out with h | h; exact .inl h; exact .inr (by omega)) (HK4.out.then (sets2 _ _ _ _) (fun x hx => .inr (by simp at hx; omega))))
  · have hpt : pT win ram A n = -9 ∧ pL ram A (List.replicate n c) = ram := by
      have hnn : ¬ inAt 4096 win A n ∧ ¬ inAt 1048576 ram A n := by
        unfold tT at h0
        split at h0
        · exact absurd rfl h0
        · next hh => exact ⟨fun h => hh (.inl h), fun h => hh (.inr h)⟩
      refine ⟨?_, ?_⟩
      · unfold pT; rw [if_neg hnn.2, if_neg hnn.1]
      · unfold pL; rw [List.length_replicate, if_neg hnn.2]
    rw [hpt.1, hpt.2]
    rw [gL_none h0, (tT_or win ram A n).resolve_left h0] at HGET
    clear HPUT h0 hrR hwR hwl hrl hw hr hr4 hpt hci
    go_enter Try.func18, Try.ntmps18
    go_upto_region 1 with fail
    generalize hV : World.alloc _ _ = V
    have kV : Keeps [] w V := by rw [← hV]; exact (Keeps.alloc [] _ _).trans (Keeps.alloc [] _ _)
    have vs : V.heap.size = w.heap.size + 2 := by rw [← hV]; simp
    have wB : Whole V w.heap.size 31 [.slice aw wl cw, .slice ar rl cr] := by
      rw [← hV]; exact (Whole.new w 31 [.slice aw wl cw, .slice ar rl cr]).keeps (Keeps.alloc [] _ _) (by simp)
    have wR : Whole V (w.heap.size + 1) 31 [.slice none 0 0, .slice none 0 0] := by
      rw [← hV]; exact Whole.new_at _ 31 [.slice none 0 0, .slice none 0 0] _ (by simp)
    have KV := Lib.hid kV
    have WB := Lib.hid wB
    have WR := Lib.hid wR
    have VS := Lib.hid vs
    have d0 := wB.cell 0
    have d1 := wB.cell 1
    have g0 := wR.cell 0
    have g1 := wR.cell 1
    have f0 := wR.frozen 0
    have f1 := wR.frozen 1
    simp only [List.getElem?_cons_zero, List.getElem?_cons_succ] at d0 d1 g0 g1
    clear hV kV wB wR vs
    go_wp2_with (first
      | (go_at_call 32; refine (HGET.out _ KV.out).mono ?_; rintro e w2 ⟨u, rfl, ho, hk⟩
         have HOG := Lib.hid ho; have HK2 := Lib.hid (KV.out.trans hk); have HKV2 := Lib.hid hk
         have hwr := WR.out.keeps hk (by simp); have hwb := WB.out.keeps hk (by simp)
         have WR2 := Lib.hid hwr; have WB2 := Lib.hid hwb
         replace d0 := hk.cell d0 (by simp); replace d1 := hk.cell d1 (by simp); replace g0 := hk.cell g0 (by simp); replace g1 := hk.cell g1 (by simp)
         have f0 := hwr.frozen 0; have f1 := hwr.frozen 1
         obtain ⟨ao, cp, rfl⟩ := owns_shape2 ho
         clear ho hk hwr hwb)
      | fail)
    obtain ⟨g0, g1⟩ := set2_cells (.slice aw wl cw) (.slice ar rl cr) WR2.out
    exact bodyPost_ret (v := .tuple #[.agg #[.slice aw wl cw, .slice ar rl cr], .int .i32 (-9)]) (by simp [results, Try.results18, go_sem, g0, g1]) rfl
      (DocPut.mk ar cr Mr rfl ((HR.out.keeps HK2.out (by simp)).ifKept (sets2 _ _ _ _) (fun _ => by have := HMR.out; simp; omega)) (.inl rfl) (HK2.out.then (sets2 _ _ _ _) (fun x hx => .inr (by simp at hx; omega))))
end
end Go.Proofs.Ytcbdkkpoliameaa
