/-
  MemTells, walked. (draft/gentells9.py writes this text.)
-/
import Derived.Test.YtcbdkkpoliameaaMemTellsB
namespace Go.Proofs.Ytcbdkkpoliameaa
open Go.RowKit
set_option linter.unusedVariables false
set_option linter.unusedSimpArgs false

theorem pL_length (ram : List UInt8) (A : Nat) (bs : List UInt8) : (pL ram A bs).length = ram.length := by
  unfold pL
  split
  · next hi => unfold inAt at hi; exact putAt_length _ _ _ (by omega)
  · rfl
theorem moveL_length (win ram : List UInt8) (A B n : Nat) : (moveL win ram A B n).length = ram.length := by
  unfold moveL
  split
  · exact pL_length _ _ _
  · rfl

theorem doc_one (a b : Option Addr) (k c n d : Nat) : (#[Value.slice a k c, Value.slice b n d].all fun x => x.oneCell') = true := by kernel_rfl

set_option maxRecDepth 100000 in
set_option maxHeartbeats 4000000 in
theorem MemTells_off (w : World) (ri : Int) (r0 : -9223372036854775808 ≤ ri) (r1 : ri ≤ 9223372036854775807) (v : Value) (win : List UInt8) (Mw : Nat) (h : Reads w v win Mw) (hl : win.length ≤ maxLen) (lv : Value)
    (hno : 400 < ri ∨ 400 < win.length ∨ ri < 4 ∨ ri % 4 ≠ 0) :
    Calls Try.prog 3 #[.int .i64 ri, v, lv] w fun e w' => e = .returned (.bool true) ∧ Keeps [] w w' := by
  have hml : maxLen = 9223372036854775807 := rfl
  obtain ⟨a, cap, rfl, hcap⟩ := h.shape
  by_cases h1 : 400 < ri
  · clear hno
    generalize win.length = wl at *
    go_enter Try.func3, Try.ntmps3
    go_wp2_with (go_at_call 8; refine (awake9_any _).mono ?_; rintro e w8 ⟨rfl, hk8⟩; have HK8 := Lib.hid hk8; clear hk8)
    go_ret
    exact ⟨rfl, HK8.out⟩
  by_cases h2 : 400 < win.length
  · have h2i : (400 : Int) < win.length := by omega
    clear hno h
    generalize win.length = wl at *
    go_enter Try.func3, Try.ntmps3
    go_wp2_with (go_at_call 8; refine (awake9_any _).mono ?_; rintro e w8 ⟨rfl, hk8⟩; have HK8 := Lib.hid hk8; clear hk8)
    go_ret
    exact ⟨rfl, HK8.out⟩
  have h2i : ¬ (400 : Int) < win.length := by omega
  have HNR := Lib.hid (fun U => Ram_not U none (.inl rfl))
  by_cases h3 : ri < 4
  · have HN := Lib.hid (fun U => New9_err U ri a win.length cap (.inl h3) r0)
    clear hno h
    generalize win.length = wl at *
    go_enter Try.func3, Try.ntmps3
    go_wp2_with (first
      | (go_at_call 9; refine (HN.out _).mono ?_; rintro e w2 ⟨rfl, rfl⟩)
      | (go_at_call 10; refine (HNR.out _).mono ?_; rintro e w2 ⟨rfl, rfl⟩)
      | (go_at_call 8; refine (awake9_any _).mono ?_; rintro e w8 ⟨rfl, hk8⟩; have HK8 := Lib.hid hk8; clear hk8))
    go_ret
    exact ⟨rfl, HK8.out⟩
  · have h4 : ¬ ri % 4 = 0 := by omega
    have HN := Lib.hid (fun U => New9_err U ri a win.length cap (.inr (.inr (.inl h4))) r0)
    obtain ⟨k, rfl⟩ := Int.eq_ofNat_of_zero_le (by omega : 0 ≤ ri)
    have h4b : ((k : Int) % 4 != 0) = true := by simp; omega
    clear hno h
    generalize win.length = wl at *
    go_enter Try.func3, Try.ntmps3
    go_wp2_with (first
      | (go_at_call 9; refine (HN.out _).mono ?_; rintro e w2 ⟨rfl, rfl⟩)
      | (go_at_call 10; refine (HNR.out _).mono ?_; rintro e w2 ⟨rfl, rfl⟩)
      | (go_at_call 8; refine (awake9_any _).mono ?_; rintro e w8 ⟨rfl, hk8⟩; have HK8 := Lib.hid hk8; clear hk8))
    go_ret
    exact ⟨rfl, HK8.out⟩

set_option maxRecDepth 100000 in
set_option maxHeartbeats 16000000 in
theorem MemTells_on (w : World) (n : Nat) (n4 : 4 ≤ n) (n1 : n ≤ 400) (nm : n % 4 = 0) (v : Value) (win : List UInt8) (Mw : Nat) (h : Reads w v win Mw) (hl : win.length ≤ 400) (lv : Value) (nl : Nat) (hv : Ops9 w lv nl) :
    Calls Try.prog 3 #[.int .i64 n, v, lv] w fun e w' => e = .returned (.bool true) ∧ Keeps [] w w' := by
  have hml : maxLen = 9223372036854775807 := rfl
  obtain ⟨a, cap, rfl, hcap⟩ := h.shape
  obtain ⟨ao, cpo, rfl, ho1, ho2, hops⟩ := hv.shape
  have HOPS := Lib.hid hops
  obtain ⟨K, hK⟩ : ∃ K, K = min nl 60 := ⟨_, rfl⟩
  have hmn := fun w ts t => run_min9 w ts t (nl : Int) 60 K (by omega)
  have hcut := fun w => run_cutO9 w ao nl cpo K (by omega)
  have HKN := Lib.hid (show K ≤ nl ∧ K ≤ 60 from by omega)
  have hK60 : K ≤ 60 := by omega
  have hnm : (n : Int) % 4 = 0 := by omega
  have HNM := Lib.hid nm
  have HWR := Lib.hid h
  have HWL := Lib.hid hl
  obtain ⟨zs, hzs⟩ : ∃ zs, zs = List.replicate n (0 : UInt8) := ⟨_, rfl⟩
  have HZ := Lib.hid (show zs = List.replicate n 0 ∧ zs.length = n from ⟨hzs, by rw [hzs]; simp⟩)
  have hmk : ∀ w, (Instr.makeSlice 22 (.int .i64 n) (.int .i64 n)).run Try.prog w = .ok (.slice (some ⟨w.heap.size, 0, none⟩) n n) (w.alloc (.cells (zs.map bv).toArray 5)) := fun w => by rw [hzs]; exact run_zeros w n (by omega)
  clear hops hK nm h hv hzs
  obtain ⟨k, hk⟩ : ∃ k, k = win.length := ⟨_, rfl⟩
  have HKL := Lib.hid hk
  rw [← hk] at HWR hl hcap ⊢
  clear hk
  have HNEW := Lib.hid (show Calls Try.prog 9 #[.int .i64 n, .slice a k cap] w fun e w' => ∃ g rb M wv, e = .returned (.tuple #[.pointer (some ⟨g, 0, none⟩), .int .i64 0]) ∧ MemAt w' w.heap.size g rb M wv win zs ∧ Keeps [] w w' from by
    rw [HZ.out.1]; exact New9_ok w n n4 (by omega) HNM.out _ win Mw HWR.out (by have := HWL.out; omega))
  go_enter Try.func3, Try.ntmps3
  go_upto_region 6 with (first
    | (go_at_call 9; refine HNEW.out.mono ?_; rintro e w1 ⟨g, rb, M, wv, rfl, hm, hk⟩; have HM1 := Lib.hid hm; have HK1 := Lib.hid hk; clear hm hk))
  have HWR1 := Lib.hid (fun (U : World) (hU : Keeps [] w1 U) => show Reads U (.slice a k cap) win Mw from HWR.out.keeps (HK1.out.trans hU) (by simp))
  go_cut [9] from 47 to 52 (fun v9 wc => ∃ R : Nat, v9 = .pointer (some ⟨R, 0, none⟩) ∧ Hid (NewDoc w1 wc R win zs))
  case first =>
    have KW := Lib.hid (Keeps.drew [] w1)
    refine wp_region_any (by kernel_rfl) ?_
    change wpAny _ _ _ _ _ _ _ (World.drew _)
    generalize w1.drew = w10 at *
    refine wpAny_take (i := 1) (v := ?_) rfl (by kernel_rfl) (by kernel_rfl) (by kernel_rfl) (fun _ _ _ h => h) (Or.inl ⟨by rfl, by intro w; go_simp; with_reducible rfl⟩) ?_
    refine wpAny_take (i := 3) (v := ?_) rfl (by kernel_rfl) (by kernel_rfl) (by kernel_rfl) (fun _ _ _ h => h) (Or.inl ⟨by rfl, by intro w; go_simp; with_reducible rfl⟩) ?_
    try simp only [Act.put, List.getElem_toArray, List.getElem_cons_succ, List.getElem_cons_zero, List.setIfInBounds_toArray, List.set_cons_succ, List.set_cons_zero]
    refine wpAny_ready (rs := [0, 4, 6]) (by kernel_rfl) (by simp) (AllReady.cons (o := { dst := some 47, op := Op.buildSlice 22 0 #[], type := 22, pos := "law.go:47", after := #[], guard := none }) rfl (fun K hK => ?_) (AllReady.cons (o := { dst := some 51, op := Op.makeSlice 22 (Operand.tmp 50) (Operand.tmp 50), type := 22, pos := "law.go:47", after := #[{ on := 3, ground := Ground.data }, { on := 3, ground := Ground.data }], guard := none }) rfl (fun K hK => ?_) (AllReady.cons (o := { dst := some 9, op := Op.alloc 31, type := 0, pos := "law.go:47", after := #[], guard := none }) rfl (fun K hK => ?_) AllReady.nil)))
    · go_simp
      refine hK _ _ ?_
      clear hK K
      have kA := Keeps.alloc [] w10 (.cells #[] 5)
      have zA := Whole.new w10 5 []
      have hsA := KW.out.size
      replace KW := Lib.hid (KW.out.trans kA)
      have ZA := Lib.hid zA
      clear zA kA
      change wpAny _ _ _ _ _ _ _ (w10.alloc (.cells #[] 5))
      generalize w10.alloc (.cells #[] 5) = w11 at *
      generalize w10.heap.size = xA at *
      try simp only [Act.put, List.getElem_toArray, List.getElem_cons_succ, List.getElem_cons_zero, List.setIfInBounds_toArray, List.set_cons_succ, List.set_cons_zero]
      refine wpAny_ready (rs := [2, 4, 6]) (by kernel_rfl) (by simp) (AllReady.cons (o := { dst := some 49, op := Op.call { callee := Callee.builtin Builtin.append, args := #[Operand.tmp 47, Operand.tmp 48], argTypes := #[22, 22] }, type := 22, pos := "law.go:47", after := #[{ on := 0, ground := Ground.data }, { on := 1, ground := Ground.data }], guard := none }) rfl (fun K hK => ?_) (AllReady.cons (o := { dst := some 51, op := Op.makeSlice 22 (Operand.tmp 50) (Operand.tmp 50), type := 22, pos := "law.go:47", after := #[{ on := 3, ground := Ground.data }, { on := 3, ground := Ground.data }], guard := none }) rfl (fun K hK => ?_) (AllReady.cons (o := { dst := some 9, op := Op.alloc 31, type := 0, pos := "law.go:47", after := #[], guard := none }) rfl (fun K hK => ?_) AllReady.nil)))
      · obtain ⟨aB, cB, w12, MB, hapB, kA, _, hrB, hMB⟩ := run_append_b w11 22 (.slice a k cap) win Mw (HWR1.out _ KW.out) (by have := HWL.out; omega) xA ZA.out
        rw [← HKL.out] at hapB hrB
        refine step_append_known rfl (.tmp 47) (.tmp 48) rfl (.slice (some ⟨xA, 0, none⟩) 0 0) (.slice a k cap) (.slice aB k cB) w12 (by go_simp) (by go_simp) (fun ty => hapB) ?_
        refine hK _ _ ?_
        clear hK K
        have hsz := kA.size
        have hs1 := KW.out.size
        have SB := Lib.hid (show Reads w12 (.slice aB k cB) win MB ∧ (win ≠ [] → w1.heap.size ≤ MB ∧ True ∧ MB < w12.heap.size) from ⟨hrB, fun hne => by have h1 := (hMB hne).1; have h2 := (hMB hne).2.2.lt; refine ⟨by omega, ?_, h2⟩; trivial⟩)
        replace KW := Lib.hid (KW.out.then kA (fun q hq => .inr (by simp at hq; omega)))
        clear hapB kA hrB hMB hsz hs1 ZA
        try simp only [Act.put, List.getElem_toArray, List.getElem_cons_succ, List.getElem_cons_zero, List.setIfInBounds_toArray, List.set_cons_succ, List.set_cons_zero]
        refine wpAny_ready (rs := [4, 6]) (by kernel_rfl) (by simp) (AllReady.cons (o := { dst := some 51, op := Op.makeSlice 22 (Operand.tmp 50) (Operand.tmp 50), type := 22, pos := "law.go:47", after := #[{ on := 3, ground := Ground.data }, { on := 3, ground := Ground.data }], guard := none }) rfl (fun K hK => ?_) (AllReady.cons (o := { dst := some 9, op := Op.alloc 31, type := 0, pos := "law.go:47", after := #[], guard := none }) rfl (fun K hK => ?_) AllReady.nil))
        · go_simp
          refine hK _ _ ?_
          clear hK K
          have kA := Keeps.alloc [] w12 (.cells (zs.map bv).toArray 5)
          have zA := Whole.new w12 5 (zs.map bv)
          have hsC := KW.out.size
          have hBC := SB.out.2
          replace KW := Lib.hid (KW.out.trans kA)
          have ZC := Lib.hid zA
          have SB' := SB.out.1.keeps kA (by simp)
          have sz := kA.size
          clear zA
          change wpAny _ _ _ _ _ _ _ (w12.alloc (.cells (zs.map bv).toArray 5))
          generalize w12.alloc (.cells (zs.map bv).toArray 5) = w13 at *
          replace SB := Lib.hid (show Reads w13 (.slice aB k cB) win MB ∧ (win ≠ [] → w1.heap.size ≤ MB ∧ True ∧ MB < w13.heap.size) from ⟨SB', fun hne => by have := hBC hne; refine ⟨by omega, ?_, by omega⟩; trivial⟩)
          clear SB' sz hBC kA
          generalize w12.heap.size = xC at *
          try simp only [Act.put, List.getElem_toArray, List.getElem_cons_succ, List.getElem_cons_zero, List.setIfInBounds_toArray, List.set_cons_succ, List.set_cons_zero]
          refine wpAny_take (i := 5) (v := ?_) rfl (by kernel_rfl) (by kernel_rfl) (by kernel_rfl) (fun _ _ _ h => h) (Or.inl ⟨by rfl, by intro w; go_simp; with_reducible rfl⟩) ?_
          try simp only [Act.put, List.getElem_toArray, List.getElem_cons_succ, List.getElem_cons_zero, List.setIfInBounds_toArray, List.set_cons_succ, List.set_cons_zero]
          refine wpAny_ready (rs := [6]) (by kernel_rfl) (by simp) (AllReady.cons (o := { dst := some 9, op := Op.alloc 31, type := 0, pos := "law.go:47", after := #[], guard := none }) rfl (fun K hK => ?_) AllReady.nil)
          go_simp
          refine hK _ _ ?_
          clear hK K
          have kA := Keeps.alloc [] w13 (.cells #[.slice none 0 0, .slice none 0 0] 31)
          have zA := Whole.new w13 31 [.slice none 0 0, .slice none 0 0]
          have hsD := KW.out.size
          have hCD := ZC.out.lt
          replace ZC := Lib.hid (ZC.out.keeps kA (by simp))
          have hBD := SB.out.2
          replace KW := Lib.hid (KW.out.trans kA)
          have ZD := Lib.hid zA
          have SB' := SB.out.1.keeps kA (by simp)
          have sz := kA.size
          clear zA
          change wpAny _ _ _ _ _ _ _ (w13.alloc (.cells #[.slice none 0 0, .slice none 0 0] 31))
          generalize w13.alloc (.cells #[.slice none 0 0, .slice none 0 0] 31) = w14 at *
          replace SB := Lib.hid (show Reads w14 (.slice aB k cB) win MB ∧ (win ≠ [] → w1.heap.size ≤ MB ∧ MB ≠ w13.heap.size ∧ MB < w14.heap.size) from ⟨SB', fun hne => by have := hBD hne; refine ⟨by omega, ?_, by omega⟩; omega⟩)
          clear SB' sz hBD kA
          generalize w13.heap.size = xD at *
          replace hCD : xC ≠ xD := by omega
          try simp only [Act.put, List.getElem_toArray, List.getElem_cons_succ, List.getElem_cons_zero, List.setIfInBounds_toArray, List.set_cons_succ, List.set_cons_zero]
          refine wpAny_ready (rs := [7]) (by kernel_rfl) (by simp) (AllReady.cons (o := { dst := none, op := Op.store 31 (Operand.tmp 9) (Operand.tmp 52), type := 0, pos := "law.go:47", after := #[{ on := 6, ground := Ground.data }, { on := 5, ground := Ground.data }, { on := 2, ground := Ground.chain }, { on := 0, ground := Ground.phase }, { on := 1, ground := Ground.phase }, { on := 2, ground := Ground.phase }, { on := 3, ground := Ground.phase }, { on := 4, ground := Ground.phase }, { on := 5, ground := Ground.phase }, { on := 6, ground := Ground.phase }], guard := none }) rfl (fun K hK => ?_) AllReady.nil)
          refine step_store_all9 rfl 31 (.tmp 9) (.tmp 52) rfl xD _ [.slice aB k cB, .slice (some ⟨xC, 0, none⟩) n n] rfl rfl ZD.out rfl (by rw [sz9]; rfl) (doc_one _ _ _ _ _ _) ?_
          intro w15 zA kA
          replace ZC := Lib.hid (ZC.out.keeps kA (by simp; omega))
          replace SB := Lib.hid (show Reads w15 (.slice aB k cB) win MB ∧ (win ≠ [] → w1.heap.size ≤ MB ∧ MB ≠ xD ∧ MB < w15.heap.size) from ⟨SB.out.1.ifKept kA (fun hne => by have := (SB.out.2 hne).2.1; simp; exact this), fun hne => by have := SB.out.2 hne; have := kA.size; omega⟩)
          replace ZD := Lib.hid zA
          replace KW := Lib.hid (KW.out.then kA (fun q hq => .inr (by simp at hq; omega)))
          clear kA zA
          refine hK _ _ ?_
          clear hK K
          try simp only [Act.put, List.getElem_toArray, List.getElem_cons_succ, List.getElem_cons_zero, List.setIfInBounds_toArray, List.set_cons_succ, List.set_cons_zero]
          refine wpAny_done (by kernel_rfl) ?_ _
          go_wp2_with fail
          go_meet
          case rel => exact ⟨xD, rfl, Lib.hid ⟨KW.out, hsD, aB, cB, MB, xC, by rw [← HKL.out, HZ.out.2]; exact ZD.out, by rw [← HKL.out]; exact SB.out.1, ZC.out, hsC, hCD, SB.out.2⟩⟩
        · go_simp
          refine hK _ _ ?_
          clear hK K
          have kA := Keeps.alloc [] w12 (.cells #[.slice none 0 0, .slice none 0 0] 31)
          have zA := Whole.new w12 31 [.slice none 0 0, .slice none 0 0]
          have hsD := KW.out.size
          have hBD := SB.out.2
          replace KW := Lib.hid (KW.out.trans kA)
          have ZD := Lib.hid zA
          have SB' := SB.out.1.keeps kA (by simp)
          have sz := kA.size
          clear zA
          change wpAny _ _ _ _ _ _ _ (w12.alloc (.cells #[.slice none 0 0, .slice none 0 0] 31))
          generalize w12.alloc (.cells #[.slice none 0 0, .slice none 0 0] 31) = w13 at *
          replace SB := Lib.hid (show Reads w13 (.slice aB k cB) win MB ∧ (win ≠ [] → w1.heap.size ≤ MB ∧ MB ≠ w12.heap.size ∧ MB < w13.heap.size) from ⟨SB', fun hne => by have := hBD hne; refine ⟨by omega, ?_, by omega⟩; omega⟩)
          clear SB' sz hBD kA
          generalize w12.heap.size = xD at *
          try simp only [Act.put, List.getElem_toArray, List.getElem_cons_succ, List.getElem_cons_zero, List.setIfInBounds_toArray, List.set_cons_succ, List.set_cons_zero]
          refine wpAny_ready (rs := [4]) (by kernel_rfl) (by simp) (AllReady.cons (o := { dst := some 51, op := Op.makeSlice 22 (Operand.tmp 50) (Operand.tmp 50), type := 22, pos := "law.go:47", after := #[{ on := 3, ground := Ground.data }, { on := 3, ground := Ground.data }], guard := none }) rfl (fun K hK => ?_) AllReady.nil)
          go_simp
          refine hK _ _ ?_
          clear hK K
          have kA := Keeps.alloc [] w13 (.cells (zs.map bv).toArray 5)
          have zA := Whole.new w13 5 (zs.map bv)
          have hsC := KW.out.size
          have hDC := ZD.out.lt
          replace ZD := Lib.hid (ZD.out.keeps kA (by simp))
          have hBC := SB.out.2
          replace KW := Lib.hid (KW.out.trans kA)
          have ZC := Lib.hid zA
          have SB' := SB.out.1.keeps kA (by simp)
          have sz := kA.size
          clear zA
          change wpAny _ _ _ _ _ _ _ (w13.alloc (.cells (zs.map bv).toArray 5))
          generalize w13.alloc (.cells (zs.map bv).toArray 5) = w14 at *
          replace SB := Lib.hid (show Reads w14 (.slice aB k cB) win MB ∧ (win ≠ [] → w1.heap.size ≤ MB ∧ MB ≠ xD ∧ MB < w14.heap.size) from ⟨SB', fun hne => by have := hBC hne; refine ⟨by omega, ?_, by omega⟩; exact this.2.1⟩)
          clear SB' sz hBC kA
          generalize w13.heap.size = xC at *
          replace hDC : xC ≠ xD := by omega
          have hCD := hDC
          try simp only [Act.put, List.getElem_toArray, List.getElem_cons_succ, List.getElem_cons_zero, List.setIfInBounds_toArray, List.set_cons_succ, List.set_cons_zero]
          refine wpAny_take (i := 5) (v := ?_) rfl (by kernel_rfl) (by kernel_rfl) (by kernel_rfl) (fun _ _ _ h => h) (Or.inl ⟨by rfl, by intro w; go_simp; with_reducible rfl⟩) ?_
          try simp only [Act.put, List.getElem_toArray, List.getElem_cons_succ, List.getElem_cons_zero, List.setIfInBounds_toArray, List.set_cons_succ, List.set_cons_zero]
          refine wpAny_ready (rs := [7]) (by kernel_rfl) (by simp) (AllReady.cons (o := { dst := none, op := Op.store 31 (Operand.tmp 9) (Operand.tmp 52), type := 0, pos := "law.go:47", after := #[{ on := 6, ground := Ground.data }, { on := 5, ground := Ground.data }, { on := 2, ground := Ground.chain }, { on := 0, ground := Ground.phase }, { on := 1, ground := Ground.phase }, { on := 2, ground := Ground.phase }, { on := 3, ground := Ground.phase }, { on := 4, ground := Ground.phase }, { on := 5, ground := Ground.phase }, { on := 6, ground := Ground.phase }], guard := none }) rfl (fun K hK => ?_) AllReady.nil)
          refine step_store_all9 rfl 31 (.tmp 9) (.tmp 52) rfl xD _ [.slice aB k cB, .slice (some ⟨xC, 0, none⟩) n n] rfl rfl ZD.out rfl (by rw [sz9]; rfl) (doc_one _ _ _ _ _ _) ?_
          intro w15 zA kA
          replace ZC := Lib.hid (ZC.out.keeps kA (by simp; omega))
          replace SB := Lib.hid (show Reads w15 (.slice aB k cB) win MB ∧ (win ≠ [] → w1.heap.size ≤ MB ∧ MB ≠ xD ∧ MB < w15.heap.size) from ⟨SB.out.1.ifKept kA (fun hne => by have := (SB.out.2 hne).2.1; simp; exact this), fun hne => by have := SB.out.2 hne; have := kA.size; omega⟩)
          replace ZD := Lib.hid zA
          replace KW := Lib.hid (KW.out.then kA (fun q hq => .inr (by simp at hq; omega)))
          clear kA zA
          refine hK _ _ ?_
          clear hK K
          try simp only [Act.put, List.getElem_toArray, List.getElem_cons_succ, List.getElem_cons_zero, List.setIfInBounds_toArray, List.set_cons_succ, List.set_cons_zero]
          refine wpAny_done (by kernel_rfl) ?_ _
          go_wp2_with fail
          go_meet
          case rel => exact ⟨xD, rfl, Lib.hid ⟨KW.out, hsD, aB, cB, MB, xC, by rw [← HKL.out, HZ.out.2]; exact ZD.out, by rw [← HKL.out]; exact SB.out.1, ZC.out, hsC, hCD, SB.out.2⟩⟩
      · go_simp
        refine hK _ _ ?_
        clear hK K
        have kA := Keeps.alloc [] w11 (.cells (zs.map bv).toArray 5)
        have zA := Whole.new w11 5 (zs.map bv)
        have hsC := KW.out.size
        have hAC := ZA.out.lt
        replace ZA := Lib.hid (ZA.out.keeps kA (by simp))
        replace KW := Lib.hid (KW.out.trans kA)
        have ZC := Lib.hid zA
        clear zA kA
        change wpAny _ _ _ _ _ _ _ (w11.alloc (.cells (zs.map bv).toArray 5))
        generalize w11.alloc (.cells (zs.map bv).toArray 5) = w12 at *
        generalize w11.heap.size = xC at *
        replace hAC : xA ≠ xC := by omega
        try simp only [Act.put, List.getElem_toArray, List.getElem_cons_succ, List.getElem_cons_zero, List.setIfInBounds_toArray, List.set_cons_succ, List.set_cons_zero]
        refine wpAny_ready (rs := [2, 6]) (by kernel_rfl) (by simp) (AllReady.cons (o := { dst := some 49, op := Op.call { callee := Callee.builtin Builtin.append, args := #[Operand.tmp 47, Operand.tmp 48], argTypes := #[22, 22] }, type := 22, pos := "law.go:47", after := #[{ on := 0, ground := Ground.data }, { on := 1, ground := Ground.data }], guard := none }) rfl (fun K hK => ?_) (AllReady.cons (o := { dst := some 9, op := Op.alloc 31, type := 0, pos := "law.go:47", after := #[], guard := none }) rfl (fun K hK => ?_) AllReady.nil))
        · obtain ⟨aB, cB, w13, MB, hapB, kA, _, hrB, hMB⟩ := run_append_b w12 22 (.slice a k cap) win Mw (HWR1.out _ KW.out) (by have := HWL.out; omega) xA ZA.out
          rw [← HKL.out] at hapB hrB
          refine step_append_known rfl (.tmp 47) (.tmp 48) rfl (.slice (some ⟨xA, 0, none⟩) 0 0) (.slice a k cap) (.slice aB k cB) w13 (by go_simp) (by go_simp) (fun ty => hapB) ?_
          refine hK _ _ ?_
          clear hK K
          have hsz := kA.size
          have hs1 := KW.out.size
          have hlC := ZC.out.lt
          replace ZC := Lib.hid (ZC.out.keeps kA (by simp; omega))
          have SB := Lib.hid (show Reads w13 (.slice aB k cB) win MB ∧ (win ≠ [] → w1.heap.size ≤ MB ∧ True ∧ MB < w13.heap.size) from ⟨hrB, fun hne => by have h1 := (hMB hne).1; have h2 := (hMB hne).2.2.lt; refine ⟨by omega, ?_, h2⟩; trivial⟩)
          replace KW := Lib.hid (KW.out.then kA (fun q hq => .inr (by simp at hq; omega)))
          clear hapB kA hrB hMB hsz hs1 hlC ZA
          try simp only [Act.put, List.getElem_toArray, List.getElem_cons_succ, List.getElem_cons_zero, List.setIfInBounds_toArray, List.set_cons_succ, List.set_cons_zero]
          refine wpAny_take (i := 5) (v := ?_) rfl (by kernel_rfl) (by kernel_rfl) (by kernel_rfl) (fun _ _ _ h => h) (Or.inl ⟨by rfl, by intro w; go_simp; with_reducible rfl⟩) ?_
          try simp only [Act.put, List.getElem_toArray, List.getElem_cons_succ, List.getElem_cons_zero, List.setIfInBounds_toArray, List.set_cons_succ, List.set_cons_zero]
          refine wpAny_ready (rs := [6]) (by kernel_rfl) (by simp) (AllReady.cons (o := { dst := some 9, op := Op.alloc 31, type := 0, pos := "law.go:47", after := #[], guard := none }) rfl (fun K hK => ?_) AllReady.nil)
          go_simp
          refine hK _ _ ?_
          clear hK K
          have kA := Keeps.alloc [] w13 (.cells #[.slice none 0 0, .slice none 0 0] 31)
          have zA := Whole.new w13 31 [.slice none 0 0, .slice none 0 0]
          have hsD := KW.out.size
          have hCD := ZC.out.lt
          replace ZC := Lib.hid (ZC.out.keeps kA (by simp))
          have hBD := SB.out.2
          replace KW := Lib.hid (KW.out.trans kA)
          have ZD := Lib.hid zA
          have SB' := SB.out.1.keeps kA (by simp)
          have sz := kA.size
          clear zA
          change wpAny _ _ _ _ _ _ _ (w13.alloc (.cells #[.slice none 0 0, .slice none 0 0] 31))
          generalize w13.alloc (.cells #[.slice none 0 0, .slice none 0 0] 31) = w14 at *
          replace SB := Lib.hid (show Reads w14 (.slice aB k cB) win MB ∧ (win ≠ [] → w1.heap.size ≤ MB ∧ MB ≠ w13.heap.size ∧ MB < w14.heap.size) from ⟨SB', fun hne => by have := hBD hne; refine ⟨by omega, ?_, by omega⟩; omega⟩)
          clear SB' sz hBD kA
          generalize w13.heap.size = xD at *
          replace hCD : xC ≠ xD := by omega
          try simp only [Act.put, List.getElem_toArray, List.getElem_cons_succ, List.getElem_cons_zero, List.setIfInBounds_toArray, List.set_cons_succ, List.set_cons_zero]
          refine wpAny_ready (rs := [7]) (by kernel_rfl) (by simp) (AllReady.cons (o := { dst := none, op := Op.store 31 (Operand.tmp 9) (Operand.tmp 52), type := 0, pos := "law.go:47", after := #[{ on := 6, ground := Ground.data }, { on := 5, ground := Ground.data }, { on := 2, ground := Ground.chain }, { on := 0, ground := Ground.phase }, { on := 1, ground := Ground.phase }, { on := 2, ground := Ground.phase }, { on := 3, ground := Ground.phase }, { on := 4, ground := Ground.phase }, { on := 5, ground := Ground.phase }, { on := 6, ground := Ground.phase }], guard := none }) rfl (fun K hK => ?_) AllReady.nil)
          refine step_store_all9 rfl 31 (.tmp 9) (.tmp 52) rfl xD _ [.slice aB k cB, .slice (some ⟨xC, 0, none⟩) n n] rfl rfl ZD.out rfl (by rw [sz9]; rfl) (doc_one _ _ _ _ _ _) ?_
          intro w15 zA kA
          replace ZC := Lib.hid (ZC.out.keeps kA (by simp; omega))
          replace SB := Lib.hid (show Reads w15 (.slice aB k cB) win MB ∧ (win ≠ [] → w1.heap.size ≤ MB ∧ MB ≠ xD ∧ MB < w15.heap.size) from ⟨SB.out.1.ifKept kA (fun hne => by have := (SB.out.2 hne).2.1; simp; exact this), fun hne => by have := SB.out.2 hne; have := kA.size; omega⟩)
          replace ZD := Lib.hid zA
          replace KW := Lib.hid (KW.out.then kA (fun q hq => .inr (by simp at hq; omega)))
          clear kA zA
          refine hK _ _ ?_
          clear hK K
          try simp only [Act.put, List.getElem_toArray, List.getElem_cons_succ, List.getElem_cons_zero, List.setIfInBounds_toArray, List.set_cons_succ, List.set_cons_zero]
          refine wpAny_done (by kernel_rfl) ?_ _
          go_wp2_with fail
          go_meet
          case rel => exact ⟨xD, rfl, Lib.hid ⟨KW.out, hsD, aB, cB, MB, xC, by rw [← HKL.out, HZ.out.2]; exact ZD.out, by rw [← HKL.out]; exact SB.out.1, ZC.out, hsC, hCD, SB.out.2⟩⟩
        · go_simp
          refine hK _ _ ?_
          clear hK K
          have kA := Keeps.alloc [] w12 (.cells #[.slice none 0 0, .slice none 0 0] 31)
          have zA := Whole.new w12 31 [.slice none 0 0, .slice none 0 0]
          have hsD := KW.out.size
          have hAD := ZA.out.lt
          replace ZA := Lib.hid (ZA.out.keeps kA (by simp))
          have hCD := ZC.out.lt
          replace ZC := Lib.hid (ZC.out.keeps kA (by simp))
          replace KW := Lib.hid (KW.out.trans kA)
          have ZD := Lib.hid zA
          clear zA kA
          change wpAny _ _ _ _ _ _ _ (w12.alloc (.cells #[.slice none 0 0, .slice none 0 0] 31))
          generalize w12.alloc (.cells #[.slice none 0 0, .slice none 0 0] 31) = w13 at *
          generalize w12.heap.size = xD at *
          replace hAD : xA ≠ xD := by omega
          replace hCD : xC ≠ xD := by omega
          try simp only [Act.put, List.getElem_toArray, List.getElem_cons_succ, List.getElem_cons_zero, List.setIfInBounds_toArray, List.set_cons_succ, List.set_cons_zero]
          refine wpAny_ready (rs := [2]) (by kernel_rfl) (by simp) (AllReady.cons (o := { dst := some 49, op := Op.call { callee := Callee.builtin Builtin.append, args := #[Operand.tmp 47, Operand.tmp 48], argTypes := #[22, 22] }, type := 22, pos := "law.go:47", after := #[{ on := 0, ground := Ground.data }, { on := 1, ground := Ground.data }], guard := none }) rfl (fun K hK => ?_) AllReady.nil)
          obtain ⟨aB, cB, w14, MB, hapB, kA, _, hrB, hMB⟩ := run_append_b w13 22 (.slice a k cap) win Mw (HWR1.out _ KW.out) (by have := HWL.out; omega) xA ZA.out
          rw [← HKL.out] at hapB hrB
          refine step_append_known rfl (.tmp 47) (.tmp 48) rfl (.slice (some ⟨xA, 0, none⟩) 0 0) (.slice a k cap) (.slice aB k cB) w14 (by go_simp) (by go_simp) (fun ty => hapB) ?_
          refine hK _ _ ?_
          clear hK K
          have hsz := kA.size
          have hs1 := KW.out.size
          have hlC := ZC.out.lt
          replace ZC := Lib.hid (ZC.out.keeps kA (by simp; omega))
          have hlD := ZD.out.lt
          replace ZD := Lib.hid (ZD.out.keeps kA (by simp; omega))
          have SB := Lib.hid (show Reads w14 (.slice aB k cB) win MB ∧ (win ≠ [] → w1.heap.size ≤ MB ∧ MB ≠ xD ∧ MB < w14.heap.size) from ⟨hrB, fun hne => by have h1 := (hMB hne).1; have h2 := (hMB hne).2.2.lt; refine ⟨by omega, ?_, h2⟩; omega⟩)
          replace KW := Lib.hid (KW.out.then kA (fun q hq => .inr (by simp at hq; omega)))
          clear hapB kA hrB hMB hsz hs1 hlC hlD ZA
          try simp only [Act.put, List.getElem_toArray, List.getElem_cons_succ, List.getElem_cons_zero, List.setIfInBounds_toArray, List.set_cons_succ, List.set_cons_zero]
          refine wpAny_take (i := 5) (v := ?_) rfl (by kernel_rfl) (by kernel_rfl) (by kernel_rfl) (fun _ _ _ h => h) (Or.inl ⟨by rfl, by intro w; go_simp; with_reducible rfl⟩) ?_
          try simp only [Act.put, List.getElem_toArray, List.getElem_cons_succ, List.getElem_cons_zero, List.setIfInBounds_toArray, List.set_cons_succ, List.set_cons_zero]
          refine wpAny_ready (rs := [7]) (by kernel_rfl) (by simp) (AllReady.cons (o := { dst := none, op := Op.store 31 (Operand.tmp 9) (Operand.tmp 52), type := 0, pos := "law.go:47", after := #[{ on := 6, ground := Ground.data }, { on := 5, ground := Ground.data }, { on := 2, ground := Ground.chain }, { on := 0, ground := Ground.phase }, { on := 1, ground := Ground.phase }, { on := 2, ground := Ground.phase }, { on := 3, ground := Ground.phase }, { on := 4, ground := Ground.phase }, { on := 5, ground := Ground.phase }, { on := 6, ground := Ground.phase }], guard := none }) rfl (fun K hK => ?_) AllReady.nil)
          refine step_store_all9 rfl 31 (.tmp 9) (.tmp 52) rfl xD _ [.slice aB k cB, .slice (some ⟨xC, 0, none⟩) n n] rfl rfl ZD.out rfl (by rw [sz9]; rfl) (doc_one _ _ _ _ _ _) ?_
          intro w15 zA kA
          replace ZC := Lib.hid (ZC.out.keeps kA (by simp; omega))
          replace SB := Lib.hid (show Reads w15 (.slice aB k cB) win MB ∧ (win ≠ [] → w1.heap.size ≤ MB ∧ MB ≠ xD ∧ MB < w15.heap.size) from ⟨SB.out.1.ifKept kA (fun hne => by have := (SB.out.2 hne).2.1; simp; exact this), fun hne => by have := SB.out.2 hne; have := kA.size; omega⟩)
          replace ZD := Lib.hid zA
          replace KW := Lib.hid (KW.out.then kA (fun q hq => .inr (by simp at hq; omega)))
          clear kA zA
          refine hK _ _ ?_
          clear hK K
          try simp only [Act.put, List.getElem_toArray, List.getElem_cons_succ, List.getElem_cons_zero, List.setIfInBounds_toArray, List.set_cons_succ, List.set_cons_zero]
          refine wpAny_done (by kernel_rfl) ?_ _
          go_wp2_with fail
          go_meet
          case rel => exact ⟨xD, rfl, Lib.hid ⟨KW.out, hsD, aB, cB, MB, xC, by rw [← HKL.out, HZ.out.2]; exact ZD.out, by rw [← HKL.out]; exact SB.out.1, ZC.out, hsC, hCD, SB.out.2⟩⟩
      · go_simp
        refine hK _ _ ?_
        clear hK K
        have kA := Keeps.alloc [] w11 (.cells #[.slice none 0 0, .slice none 0 0] 31)
        have zA := Whole.new w11 31 [.slice none 0 0, .slice none 0 0]
        have hsD := KW.out.size
        have hAD := ZA.out.lt
        replace ZA := Lib.hid (ZA.out.keeps kA (by simp))
        replace KW := Lib.hid (KW.out.trans kA)
        have ZD := Lib.hid zA
        clear zA kA
        change wpAny _ _ _ _ _ _ _ (w11.alloc (.cells #[.slice none 0 0, .slice none 0 0] 31))
        generalize w11.alloc (.cells #[.slice none 0 0, .slice none 0 0] 31) = w12 at *
        generalize w11.heap.size = xD at *
        replace hAD : xA ≠ xD := by omega
        try simp only [Act.put, List.getElem_toArray, List.getElem_cons_succ, List.getElem_cons_zero, List.setIfInBounds_toArray, List.set_cons_succ, List.set_cons_zero]
        refine wpAny_ready (rs := [2, 4]) (by kernel_rfl) (by simp) (AllReady.cons (o := { dst := some 49, op := Op.call { callee := Callee.builtin Builtin.append, args := #[Operand.tmp 47, Operand.tmp 48], argTypes := #[22, 22] }, type := 22, pos := "law.go:47", after := #[{ on := 0, ground := Ground.data }, { on := 1, ground := Ground.data }], guard := none }) rfl (fun K hK => ?_) (AllReady.cons (o := { dst := some 51, op := Op.makeSlice 22 (Operand.tmp 50) (Operand.tmp 50), type := 22, pos := "law.go:47", after := #[{ on := 3, ground := Ground.data }, { on := 3, ground := Ground.data }], guard := none }) rfl (fun K hK => ?_) AllReady.nil))
        · obtain ⟨aB, cB, w13, MB, hapB, kA, _, hrB, hMB⟩ := run_append_b w12 22 (.slice a k cap) win Mw (HWR1.out _ KW.out) (by have := HWL.out; omega) xA ZA.out
          rw [← HKL.out] at hapB hrB
          refine step_append_known rfl (.tmp 47) (.tmp 48) rfl (.slice (some ⟨xA, 0, none⟩) 0 0) (.slice a k cap) (.slice aB k cB) w13 (by go_simp) (by go_simp) (fun ty => hapB) ?_
          refine hK _ _ ?_
          clear hK K
          have hsz := kA.size
          have hs1 := KW.out.size
          have hlD := ZD.out.lt
          replace ZD := Lib.hid (ZD.out.keeps kA (by simp; omega))
          have SB := Lib.hid (show Reads w13 (.slice aB k cB) win MB ∧ (win ≠ [] → w1.heap.size ≤ MB ∧ MB ≠ xD ∧ MB < w13.heap.size) from ⟨hrB, fun hne => by have h1 := (hMB hne).1; have h2 := (hMB hne).2.2.lt; refine ⟨by omega, ?_, h2⟩; omega⟩)
          replace KW := Lib.hid (KW.out.then kA (fun q hq => .inr (by simp at hq; omega)))
          clear hapB kA hrB hMB hsz hs1 hlD ZA
          try simp only [Act.put, List.getElem_toArray, List.getElem_cons_succ, List.getElem_cons_zero, List.setIfInBounds_toArray, List.set_cons_succ, List.set_cons_zero]
          refine wpAny_ready (rs := [4]) (by kernel_rfl) (by simp) (AllReady.cons (o := { dst := some 51, op := Op.makeSlice 22 (Operand.tmp 50) (Operand.tmp 50), type := 22, pos := "law.go:47", after := #[{ on := 3, ground := Ground.data }, { on := 3, ground := Ground.data }], guard := none }) rfl (fun K hK => ?_) AllReady.nil)
          go_simp
          refine hK _ _ ?_
          clear hK K
          have kA := Keeps.alloc [] w13 (.cells (zs.map bv).toArray 5)
          have zA := Whole.new w13 5 (zs.map bv)
          have hsC := KW.out.size
          have hDC := ZD.out.lt
          replace ZD := Lib.hid (ZD.out.keeps kA (by simp))
          have hBC := SB.out.2
          replace KW := Lib.hid (KW.out.trans kA)
          have ZC := Lib.hid zA
          have SB' := SB.out.1.keeps kA (by simp)
          have sz := kA.size
          clear zA
          change wpAny _ _ _ _ _ _ _ (w13.alloc (.cells (zs.map bv).toArray 5))
          generalize w13.alloc (.cells (zs.map bv).toArray 5) = w14 at *
          replace SB := Lib.hid (show Reads w14 (.slice aB k cB) win MB ∧ (win ≠ [] → w1.heap.size ≤ MB ∧ MB ≠ xD ∧ MB < w14.heap.size) from ⟨SB', fun hne => by have := hBC hne; refine ⟨by omega, ?_, by omega⟩; exact this.2.1⟩)
          clear SB' sz hBC kA
          generalize w13.heap.size = xC at *
          replace hDC : xC ≠ xD := by omega
          have hCD := hDC
          try simp only [Act.put, List.getElem_toArray, List.getElem_cons_succ, List.getElem_cons_zero, List.setIfInBounds_toArray, List.set_cons_succ, List.set_cons_zero]
          refine wpAny_take (i := 5) (v := ?_) rfl (by kernel_rfl) (by kernel_rfl) (by kernel_rfl) (fun _ _ _ h => h) (Or.inl ⟨by rfl, by intro w; go_simp; with_reducible rfl⟩) ?_
          try simp only [Act.put, List.getElem_toArray, List.getElem_cons_succ, List.getElem_cons_zero, List.setIfInBounds_toArray, List.set_cons_succ, List.set_cons_zero]
          refine wpAny_ready (rs := [7]) (by kernel_rfl) (by simp) (AllReady.cons (o := { dst := none, op := Op.store 31 (Operand.tmp 9) (Operand.tmp 52), type := 0, pos := "law.go:47", after := #[{ on := 6, ground := Ground.data }, { on := 5, ground := Ground.data }, { on := 2, ground := Ground.chain }, { on := 0, ground := Ground.phase }, { on := 1, ground := Ground.phase }, { on := 2, ground := Ground.phase }, { on := 3, ground := Ground.phase }, { on := 4, ground := Ground.phase }, { on := 5, ground := Ground.phase }, { on := 6, ground := Ground.phase }], guard := none }) rfl (fun K hK => ?_) AllReady.nil)
          refine step_store_all9 rfl 31 (.tmp 9) (.tmp 52) rfl xD _ [.slice aB k cB, .slice (some ⟨xC, 0, none⟩) n n] rfl rfl ZD.out rfl (by rw [sz9]; rfl) (doc_one _ _ _ _ _ _) ?_
          intro w15 zA kA
          replace ZC := Lib.hid (ZC.out.keeps kA (by simp; omega))
          replace SB := Lib.hid (show Reads w15 (.slice aB k cB) win MB ∧ (win ≠ [] → w1.heap.size ≤ MB ∧ MB ≠ xD ∧ MB < w15.heap.size) from ⟨SB.out.1.ifKept kA (fun hne => by have := (SB.out.2 hne).2.1; simp; exact this), fun hne => by have := SB.out.2 hne; have := kA.size; omega⟩)
          replace ZD := Lib.hid zA
          replace KW := Lib.hid (KW.out.then kA (fun q hq => .inr (by simp at hq; omega)))
          clear kA zA
          refine hK _ _ ?_
          clear hK K
          try simp only [Act.put, List.getElem_toArray, List.getElem_cons_succ, List.getElem_cons_zero, List.setIfInBounds_toArray, List.set_cons_succ, List.set_cons_zero]
          refine wpAny_done (by kernel_rfl) ?_ _
          go_wp2_with fail
          go_meet
          case rel => exact ⟨xD, rfl, Lib.hid ⟨KW.out, hsD, aB, cB, MB, xC, by rw [← HKL.out, HZ.out.2]; exact ZD.out, by rw [← HKL.out]; exact SB.out.1, ZC.out, hsC, hCD, SB.out.2⟩⟩
        · go_simp
          refine hK _ _ ?_
          clear hK K
          have kA := Keeps.alloc [] w12 (.cells (zs.map bv).toArray 5)
          have zA := Whole.new w12 5 (zs.map bv)
          have hsC := KW.out.size
          have hAC := ZA.out.lt
          replace ZA := Lib.hid (ZA.out.keeps kA (by simp))
          have hDC := ZD.out.lt
          replace ZD := Lib.hid (ZD.out.keeps kA (by simp))
          replace KW := Lib.hid (KW.out.trans kA)
          have ZC := Lib.hid zA
          clear zA kA
          change wpAny _ _ _ _ _ _ _ (w12.alloc (.cells (zs.map bv).toArray 5))
          generalize w12.alloc (.cells (zs.map bv).toArray 5) = w13 at *
          generalize w12.heap.size = xC at *
          replace hAC : xA ≠ xC := by omega
          replace hDC : xC ≠ xD := by omega
          have hCD := hDC
          try simp only [Act.put, List.getElem_toArray, List.getElem_cons_succ, List.getElem_cons_zero, List.setIfInBounds_toArray, List.set_cons_succ, List.set_cons_zero]
          refine wpAny_ready (rs := [2]) (by kernel_rfl) (by simp) (AllReady.cons (o := { dst := some 49, op := Op.call { callee := Callee.builtin Builtin.append, args := #[Operand.tmp 47, Operand.tmp 48], argTypes := #[22, 22] }, type := 22, pos := "law.go:47", after := #[{ on := 0, ground := Ground.data }, { on := 1, ground := Ground.data }], guard := none }) rfl (fun K hK => ?_) AllReady.nil)
          obtain ⟨aB, cB, w14, MB, hapB, kA, _, hrB, hMB⟩ := run_append_b w13 22 (.slice a k cap) win Mw (HWR1.out _ KW.out) (by have := HWL.out; omega) xA ZA.out
          rw [← HKL.out] at hapB hrB
          refine step_append_known rfl (.tmp 47) (.tmp 48) rfl (.slice (some ⟨xA, 0, none⟩) 0 0) (.slice a k cap) (.slice aB k cB) w14 (by go_simp) (by go_simp) (fun ty => hapB) ?_
          refine hK _ _ ?_
          clear hK K
          have hsz := kA.size
          have hs1 := KW.out.size
          have hlC := ZC.out.lt
          replace ZC := Lib.hid (ZC.out.keeps kA (by simp; omega))
          have hlD := ZD.out.lt
          replace ZD := Lib.hid (ZD.out.keeps kA (by simp; omega))
          have SB := Lib.hid (show Reads w14 (.slice aB k cB) win MB ∧ (win ≠ [] → w1.heap.size ≤ MB ∧ MB ≠ xD ∧ MB < w14.heap.size) from ⟨hrB, fun hne => by have h1 := (hMB hne).1; have h2 := (hMB hne).2.2.lt; refine ⟨by omega, ?_, h2⟩; omega⟩)
          replace KW := Lib.hid (KW.out.then kA (fun q hq => .inr (by simp at hq; omega)))
          clear hapB kA hrB hMB hsz hs1 hlC hlD ZA
          try simp only [Act.put, List.getElem_toArray, List.getElem_cons_succ, List.getElem_cons_zero, List.setIfInBounds_toArray, List.set_cons_succ, List.set_cons_zero]
          refine wpAny_take (i := 5) (v := ?_) rfl (by kernel_rfl) (by kernel_rfl) (by kernel_rfl) (fun _ _ _ h => h) (Or.inl ⟨by rfl, by intro w; go_simp; with_reducible rfl⟩) ?_
          try simp only [Act.put, List.getElem_toArray, List.getElem_cons_succ, List.getElem_cons_zero, List.setIfInBounds_toArray, List.set_cons_succ, List.set_cons_zero]
          refine wpAny_ready (rs := [7]) (by kernel_rfl) (by simp) (AllReady.cons (o := { dst := none, op := Op.store 31 (Operand.tmp 9) (Operand.tmp 52), type := 0, pos := "law.go:47", after := #[{ on := 6, ground := Ground.data }, { on := 5, ground := Ground.data }, { on := 2, ground := Ground.chain }, { on := 0, ground := Ground.phase }, { on := 1, ground := Ground.phase }, { on := 2, ground := Ground.phase }, { on := 3, ground := Ground.phase }, { on := 4, ground := Ground.phase }, { on := 5, ground := Ground.phase }, { on := 6, ground := Ground.phase }], guard := none }) rfl (fun K hK => ?_) AllReady.nil)
          refine step_store_all9 rfl 31 (.tmp 9) (.tmp 52) rfl xD _ [.slice aB k cB, .slice (some ⟨xC, 0, none⟩) n n] rfl rfl ZD.out rfl (by rw [sz9]; rfl) (doc_one _ _ _ _ _ _) ?_
          intro w15 zA kA
          replace ZC := Lib.hid (ZC.out.keeps kA (by simp; omega))
          replace SB := Lib.hid (show Reads w15 (.slice aB k cB) win MB ∧ (win ≠ [] → w1.heap.size ≤ MB ∧ MB ≠ xD ∧ MB < w15.heap.size) from ⟨SB.out.1.ifKept kA (fun hne => by have := (SB.out.2 hne).2.1; simp; exact this), fun hne => by have := SB.out.2 hne; have := kA.size; omega⟩)
          replace ZD := Lib.hid zA
          replace KW := Lib.hid (KW.out.then kA (fun q hq => .inr (by simp at hq; omega)))
          clear kA zA
          refine hK _ _ ?_
          clear hK K
          try simp only [Act.put, List.getElem_toArray, List.getElem_cons_succ, List.getElem_cons_zero, List.setIfInBounds_toArray, List.set_cons_succ, List.set_cons_zero]
          refine wpAny_done (by kernel_rfl) ?_ _
          go_wp2_with fail
          go_meet
          case rel => exact ⟨xD, rfl, Lib.hid ⟨KW.out, hsD, aB, cB, MB, xC, by rw [← HKL.out, HZ.out.2]; exact ZD.out, by rw [← HKL.out]; exact SB.out.1, ZC.out, hsC, hCD, SB.out.2⟩⟩
    · go_simp
      refine hK _ _ ?_
      clear hK K
      have kA := Keeps.alloc [] w10 (.cells (zs.map bv).toArray 5)
      have zA := Whole.new w10 5 (zs.map bv)
      have hsC := KW.out.size
      replace KW := Lib.hid (KW.out.trans kA)
      have ZC := Lib.hid zA
      clear zA kA
      change wpAny _ _ _ _ _ _ _ (w10.alloc (.cells (zs.map bv).toArray 5))
      generalize w10.alloc (.cells (zs.map bv).toArray 5) = w11 at *
      generalize w10.heap.size = xC at *
      try simp only [Act.put, List.getElem_toArray, List.getElem_cons_succ, List.getElem_cons_zero, List.setIfInBounds_toArray, List.set_cons_succ, List.set_cons_zero]
      refine wpAny_ready (rs := [0, 6]) (by kernel_rfl) (by simp) (AllReady.cons (o := { dst := some 47, op := Op.buildSlice 22 0 #[], type := 22, pos := "law.go:47", after := #[], guard := none }) rfl (fun K hK => ?_) (AllReady.cons (o := { dst := some 9, op := Op.alloc 31, type := 0, pos := "law.go:47", after := #[], guard := none }) rfl (fun K hK => ?_) AllReady.nil))
      · go_simp
        refine hK _ _ ?_
        clear hK K
        have kA := Keeps.alloc [] w11 (.cells #[] 5)
        have zA := Whole.new w11 5 []
        have hsA := KW.out.size
        have hCA := ZC.out.lt
        replace ZC := Lib.hid (ZC.out.keeps kA (by simp))
        replace KW := Lib.hid (KW.out.trans kA)
        have ZA := Lib.hid zA
        clear zA kA
        change wpAny _ _ _ _ _ _ _ (w11.alloc (.cells #[] 5))
        generalize w11.alloc (.cells #[] 5) = w12 at *
        generalize w11.heap.size = xA at *
        replace hCA : xA ≠ xC := by omega
        have hAC := hCA
        try simp only [Act.put, List.getElem_toArray, List.getElem_cons_succ, List.getElem_cons_zero, List.setIfInBounds_toArray, List.set_cons_succ, List.set_cons_zero]
        refine wpAny_ready (rs := [2, 6]) (by kernel_rfl) (by simp) (AllReady.cons (o := { dst := some 49, op := Op.call { callee := Callee.builtin Builtin.append, args := #[Operand.tmp 47, Operand.tmp 48], argTypes := #[22, 22] }, type := 22, pos := "law.go:47", after := #[{ on := 0, ground := Ground.data }, { on := 1, ground := Ground.data }], guard := none }) rfl (fun K hK => ?_) (AllReady.cons (o := { dst := some 9, op := Op.alloc 31, type := 0, pos := "law.go:47", after := #[], guard := none }) rfl (fun K hK => ?_) AllReady.nil))
        · obtain ⟨aB, cB, w13, MB, hapB, kA, _, hrB, hMB⟩ := run_append_b w12 22 (.slice a k cap) win Mw (HWR1.out _ KW.out) (by have := HWL.out; omega) xA ZA.out
          rw [← HKL.out] at hapB hrB
          refine step_append_known rfl (.tmp 47) (.tmp 48) rfl (.slice (some ⟨xA, 0, none⟩) 0 0) (.slice a k cap) (.slice aB k cB) w13 (by go_simp) (by go_simp) (fun ty => hapB) ?_
          refine hK _ _ ?_
          clear hK K
          have hsz := kA.size
          have hs1 := KW.out.size
          have hlC := ZC.out.lt
          replace ZC := Lib.hid (ZC.out.keeps kA (by simp; omega))
          have SB := Lib.hid (show Reads w13 (.slice aB k cB) win MB ∧ (win ≠ [] → w1.heap.size ≤ MB ∧ True ∧ MB < w13.heap.size) from ⟨hrB, fun hne => by have h1 := (hMB hne).1; have h2 := (hMB hne).2.2.lt; refine ⟨by omega, ?_, h2⟩; trivial⟩)
          replace KW := Lib.hid (KW.out.then kA (fun q hq => .inr (by simp at hq; omega)))
          clear hapB kA hrB hMB hsz hs1 hlC ZA
          try simp only [Act.put, List.getElem_toArray, List.getElem_cons_succ, List.getElem_cons_zero, List.setIfInBounds_toArray, List.set_cons_succ, List.set_cons_zero]
          refine wpAny_take (i := 5) (v := ?_) rfl (by kernel_rfl) (by kernel_rfl) (by kernel_rfl) (fun _ _ _ h => h) (Or.inl ⟨by rfl, by intro w; go_simp; with_reducible rfl⟩) ?_
          try simp only [Act.put, List.getElem_toArray, List.getElem_cons_succ, List.getElem_cons_zero, List.setIfInBounds_toArray, List.set_cons_succ, List.set_cons_zero]
          refine wpAny_ready (rs := [6]) (by kernel_rfl) (by simp) (AllReady.cons (o := { dst := some 9, op := Op.alloc 31, type := 0, pos := "law.go:47", after := #[], guard := none }) rfl (fun K hK => ?_) AllReady.nil)
          go_simp
          refine hK _ _ ?_
          clear hK K
          have kA := Keeps.alloc [] w13 (.cells #[.slice none 0 0, .slice none 0 0] 31)
          have zA := Whole.new w13 31 [.slice none 0 0, .slice none 0 0]
          have hsD := KW.out.size
          have hCD := ZC.out.lt
          replace ZC := Lib.hid (ZC.out.keeps kA (by simp))
          have hBD := SB.out.2
          replace KW := Lib.hid (KW.out.trans kA)
          have ZD := Lib.hid zA
          have SB' := SB.out.1.keeps kA (by simp)
          have sz := kA.size
          clear zA
          change wpAny _ _ _ _ _ _ _ (w13.alloc (.cells #[.slice none 0 0, .slice none 0 0] 31))
          generalize w13.alloc (.cells #[.slice none 0 0, .slice none 0 0] 31) = w14 at *
          replace SB := Lib.hid (show Reads w14 (.slice aB k cB) win MB ∧ (win ≠ [] → w1.heap.size ≤ MB ∧ MB ≠ w13.heap.size ∧ MB < w14.heap.size) from ⟨SB', fun hne => by have := hBD hne; refine ⟨by omega, ?_, by omega⟩; omega⟩)
          clear SB' sz hBD kA
          generalize w13.heap.size = xD at *
          replace hCD : xC ≠ xD := by omega
          try simp only [Act.put, List.getElem_toArray, List.getElem_cons_succ, List.getElem_cons_zero, List.setIfInBounds_toArray, List.set_cons_succ, List.set_cons_zero]
          refine wpAny_ready (rs := [7]) (by kernel_rfl) (by simp) (AllReady.cons (o := { dst := none, op := Op.store 31 (Operand.tmp 9) (Operand.tmp 52), type := 0, pos := "law.go:47", after := #[{ on := 6, ground := Ground.data }, { on := 5, ground := Ground.data }, { on := 2, ground := Ground.chain }, { on := 0, ground := Ground.phase }, { on := 1, ground := Ground.phase }, { on := 2, ground := Ground.phase }, { on := 3, ground := Ground.phase }, { on := 4, ground := Ground.phase }, { on := 5, ground := Ground.phase }, { on := 6, ground := Ground.phase }], guard := none }) rfl (fun K hK => ?_) AllReady.nil)
          refine step_store_all9 rfl 31 (.tmp 9) (.tmp 52) rfl xD _ [.slice aB k cB, .slice (some ⟨xC, 0, none⟩) n n] rfl rfl ZD.out rfl (by rw [sz9]; rfl) (doc_one _ _ _ _ _ _) ?_
          intro w15 zA kA
          replace ZC := Lib.hid (ZC.out.keeps kA (by simp; omega))
          replace SB := Lib.hid (show Reads w15 (.slice aB k cB) win MB ∧ (win ≠ [] → w1.heap.size ≤ MB ∧ MB ≠ xD ∧ MB < w15.heap.size) from ⟨SB.out.1.ifKept kA (fun hne => by have := (SB.out.2 hne).2.1; simp; exact this), fun hne => by have := SB.out.2 hne; have := kA.size; omega⟩)
          replace ZD := Lib.hid zA
          replace KW := Lib.hid (KW.out.then kA (fun q hq => .inr (by simp at hq; omega)))
          clear kA zA
          refine hK _ _ ?_
          clear hK K
          try simp only [Act.put, List.getElem_toArray, List.getElem_cons_succ, List.getElem_cons_zero, List.setIfInBounds_toArray, List.set_cons_succ, List.set_cons_zero]
          refine wpAny_done (by kernel_rfl) ?_ _
          go_wp2_with fail
          go_meet
          case rel => exact ⟨xD, rfl, Lib.hid ⟨KW.out, hsD, aB, cB, MB, xC, by rw [← HKL.out, HZ.out.2]; exact ZD.out, by rw [← HKL.out]; exact SB.out.1, ZC.out, hsC, hCD, SB.out.2⟩⟩
        · go_simp
          refine hK _ _ ?_
          clear hK K
          have kA := Keeps.alloc [] w12 (.cells #[.slice none 0 0, .slice none 0 0] 31)
          have zA := Whole.new w12 31 [.slice none 0 0, .slice none 0 0]
          have hsD := KW.out.size
          have hAD := ZA.out.lt
          replace ZA := Lib.hid (ZA.out.keeps kA (by simp))
          have hCD := ZC.out.lt
          replace ZC := Lib.hid (ZC.out.keeps kA (by simp))
          replace KW := Lib.hid (KW.out.trans kA)
          have ZD := Lib.hid zA
          clear zA kA
          change wpAny _ _ _ _ _ _ _ (w12.alloc (.cells #[.slice none 0 0, .slice none 0 0] 31))
          generalize w12.alloc (.cells #[.slice none 0 0, .slice none 0 0] 31) = w13 at *
          generalize w12.heap.size = xD at *
          replace hAD : xA ≠ xD := by omega
          replace hCD : xC ≠ xD := by omega
          try simp only [Act.put, List.getElem_toArray, List.getElem_cons_succ, List.getElem_cons_zero, List.setIfInBounds_toArray, List.set_cons_succ, List.set_cons_zero]
          refine wpAny_ready (rs := [2]) (by kernel_rfl) (by simp) (AllReady.cons (o := { dst := some 49, op := Op.call { callee := Callee.builtin Builtin.append, args := #[Operand.tmp 47, Operand.tmp 48], argTypes := #[22, 22] }, type := 22, pos := "law.go:47", after := #[{ on := 0, ground := Ground.data }, { on := 1, ground := Ground.data }], guard := none }) rfl (fun K hK => ?_) AllReady.nil)
          obtain ⟨aB, cB, w14, MB, hapB, kA, _, hrB, hMB⟩ := run_append_b w13 22 (.slice a k cap) win Mw (HWR1.out _ KW.out) (by have := HWL.out; omega) xA ZA.out
          rw [← HKL.out] at hapB hrB
          refine step_append_known rfl (.tmp 47) (.tmp 48) rfl (.slice (some ⟨xA, 0, none⟩) 0 0) (.slice a k cap) (.slice aB k cB) w14 (by go_simp) (by go_simp) (fun ty => hapB) ?_
          refine hK _ _ ?_
          clear hK K
          have hsz := kA.size
          have hs1 := KW.out.size
          have hlC := ZC.out.lt
          replace ZC := Lib.hid (ZC.out.keeps kA (by simp; omega))
          have hlD := ZD.out.lt
          replace ZD := Lib.hid (ZD.out.keeps kA (by simp; omega))
          have SB := Lib.hid (show Reads w14 (.slice aB k cB) win MB ∧ (win ≠ [] → w1.heap.size ≤ MB ∧ MB ≠ xD ∧ MB < w14.heap.size) from ⟨hrB, fun hne => by have h1 := (hMB hne).1; have h2 := (hMB hne).2.2.lt; refine ⟨by omega, ?_, h2⟩; omega⟩)
          replace KW := Lib.hid (KW.out.then kA (fun q hq => .inr (by simp at hq; omega)))
          clear hapB kA hrB hMB hsz hs1 hlC hlD ZA
          try simp only [Act.put, List.getElem_toArray, List.getElem_cons_succ, List.getElem_cons_zero, List.setIfInBounds_toArray, List.set_cons_succ, List.set_cons_zero]
          refine wpAny_take (i := 5) (v := ?_) rfl (by kernel_rfl) (by kernel_rfl) (by kernel_rfl) (fun _ _ _ h => h) (Or.inl ⟨by rfl, by intro w; go_simp; with_reducible rfl⟩) ?_
          try simp only [Act.put, List.getElem_toArray, List.getElem_cons_succ, List.getElem_cons_zero, List.setIfInBounds_toArray, List.set_cons_succ, List.set_cons_zero]
          refine wpAny_ready (rs := [7]) (by kernel_rfl) (by simp) (AllReady.cons (o := { dst := none, op := Op.store 31 (Operand.tmp 9) (Operand.tmp 52), type := 0, pos := "law.go:47", after := #[{ on := 6, ground := Ground.data }, { on := 5, ground := Ground.data }, { on := 2, ground := Ground.chain }, { on := 0, ground := Ground.phase }, { on := 1, ground := Ground.phase }, { on := 2, ground := Ground.phase }, { on := 3, ground := Ground.phase }, { on := 4, ground := Ground.phase }, { on := 5, ground := Ground.phase }, { on := 6, ground := Ground.phase }], guard := none }) rfl (fun K hK => ?_) AllReady.nil)
          refine step_store_all9 rfl 31 (.tmp 9) (.tmp 52) rfl xD _ [.slice aB k cB, .slice (some ⟨xC, 0, none⟩) n n] rfl rfl ZD.out rfl (by rw [sz9]; rfl) (doc_one _ _ _ _ _ _) ?_
          intro w15 zA kA
          replace ZC := Lib.hid (ZC.out.keeps kA (by simp; omega))
          replace SB := Lib.hid (show Reads w15 (.slice aB k cB) win MB ∧ (win ≠ [] → w1.heap.size ≤ MB ∧ MB ≠ xD ∧ MB < w15.heap.size) from ⟨SB.out.1.ifKept kA (fun hne => by have := (SB.out.2 hne).2.1; simp; exact this), fun hne => by have := SB.out.2 hne; have := kA.size; omega⟩)
          replace ZD := Lib.hid zA
          replace KW := Lib.hid (KW.out.then kA (fun q hq => .inr (by simp at hq; omega)))
          clear kA zA
          refine hK _ _ ?_
          clear hK K
          try simp only [Act.put, List.getElem_toArray, List.getElem_cons_succ, List.getElem_cons_zero, List.setIfInBounds_toArray, List.set_cons_succ, List.set_cons_zero]
          refine wpAny_done (by kernel_rfl) ?_ _
          go_wp2_with fail
          go_meet
          case rel => exact ⟨xD, rfl, Lib.hid ⟨KW.out, hsD, aB, cB, MB, xC, by rw [← HKL.out, HZ.out.2]; exact ZD.out, by rw [← HKL.out]; exact SB.out.1, ZC.out, hsC, hCD, SB.out.2⟩⟩
      · go_simp
        refine hK _ _ ?_
        clear hK K
        have kA := Keeps.alloc [] w11 (.cells #[.slice none 0 0, .slice none 0 0] 31)
        have zA := Whole.new w11 31 [.slice none 0 0, .slice none 0 0]
        have hsD := KW.out.size
        have hCD := ZC.out.lt
        replace ZC := Lib.hid (ZC.out.keeps kA (by simp))
        replace KW := Lib.hid (KW.out.trans kA)
        have ZD := Lib.hid zA
        clear zA kA
        change wpAny _ _ _ _ _ _ _ (w11.alloc (.cells #[.slice none 0 0, .slice none 0 0] 31))
        generalize w11.alloc (.cells #[.slice none 0 0, .slice none 0 0] 31) = w12 at *
        generalize w11.heap.size = xD at *
        replace hCD : xC ≠ xD := by omega
        try simp only [Act.put, List.getElem_toArray, List.getElem_cons_succ, List.getElem_cons_zero, List.setIfInBounds_toArray, List.set_cons_succ, List.set_cons_zero]
        refine wpAny_ready (rs := [0]) (by kernel_rfl) (by simp) (AllReady.cons (o := { dst := some 47, op := Op.buildSlice 22 0 #[], type := 22, pos := "law.go:47", after := #[], guard := none }) rfl (fun K hK => ?_) AllReady.nil)
        go_simp
        refine hK _ _ ?_
        clear hK K
        have kA := Keeps.alloc [] w12 (.cells #[] 5)
        have zA := Whole.new w12 5 []
        have hsA := KW.out.size
        have hCA := ZC.out.lt
        replace ZC := Lib.hid (ZC.out.keeps kA (by simp))
        have hDA := ZD.out.lt
        replace ZD := Lib.hid (ZD.out.keeps kA (by simp))
        replace KW := Lib.hid (KW.out.trans kA)
        have ZA := Lib.hid zA
        clear zA kA
        change wpAny _ _ _ _ _ _ _ (w12.alloc (.cells #[] 5))
        generalize w12.alloc (.cells #[] 5) = w13 at *
        generalize w12.heap.size = xA at *
        replace hCA : xA ≠ xC := by omega
        have hAC := hCA
        replace hDA : xA ≠ xD := by omega
        have hAD := hDA
        try simp only [Act.put, List.getElem_toArray, List.getElem_cons_succ, List.getElem_cons_zero, List.setIfInBounds_toArray, List.set_cons_succ, List.set_cons_zero]
        refine wpAny_ready (rs := [2]) (by kernel_rfl) (by simp) (AllReady.cons (o := { dst := some 49, op := Op.call { callee := Callee.builtin Builtin.append, args := #[Operand.tmp 47, Operand.tmp 48], argTypes := #[22, 22] }, type := 22, pos := "law.go:47", after := #[{ on := 0, ground := Ground.data }, { on := 1, ground := Ground.data }], guard := none }) rfl (fun K hK => ?_) AllReady.nil)
        obtain ⟨aB, cB, w14, MB, hapB, kA, _, hrB, hMB⟩ := run_append_b w13 22 (.slice a k cap) win Mw (HWR1.out _ KW.out) (by have := HWL.out; omega) xA ZA.out
        rw [← HKL.out] at hapB hrB
        refine step_append_known rfl (.tmp 47) (.tmp 48) rfl (.slice (some ⟨xA, 0, none⟩) 0 0) (.slice a k cap) (.slice aB k cB) w14 (by go_simp) (by go_simp) (fun ty => hapB) ?_
        refine hK _ _ ?_
        clear hK K
        have hsz := kA.size
        have hs1 := KW.out.size
        have hlC := ZC.out.lt
        replace ZC := Lib.hid (ZC.out.keeps kA (by simp; omega))
        have hlD := ZD.out.lt
        replace ZD := Lib.hid (ZD.out.keeps kA (by simp; omega))
        have SB := Lib.hid (show Reads w14 (.slice aB k cB) win MB ∧ (win ≠ [] → w1.heap.size ≤ MB ∧ MB ≠ xD ∧ MB < w14.heap.size) from ⟨hrB, fun hne => by have h1 := (hMB hne).1; have h2 := (hMB hne).2.2.lt; refine ⟨by omega, ?_, h2⟩; omega⟩)
        replace KW := Lib.hid (KW.out.then kA (fun q hq => .inr (by simp at hq; omega)))
        clear hapB kA hrB hMB hsz hs1 hlC hlD ZA
        try simp only [Act.put, List.getElem_toArray, List.getElem_cons_succ, List.getElem_cons_zero, List.setIfInBounds_toArray, List.set_cons_succ, List.set_cons_zero]
        refine wpAny_take (i := 5) (v := ?_) rfl (by kernel_rfl) (by kernel_rfl) (by kernel_rfl) (fun _ _ _ h => h) (Or.inl ⟨by rfl, by intro w; go_simp; with_reducible rfl⟩) ?_
        try simp only [Act.put, List.getElem_toArray, List.getElem_cons_succ, List.getElem_cons_zero, List.setIfInBounds_toArray, List.set_cons_succ, List.set_cons_zero]
        refine wpAny_ready (rs := [7]) (by kernel_rfl) (by simp) (AllReady.cons (o := { dst := none, op := Op.store 31 (Operand.tmp 9) (Operand.tmp 52), type := 0, pos := "law.go:47", after := #[{ on := 6, ground := Ground.data }, { on := 5, ground := Ground.data }, { on := 2, ground := Ground.chain }, { on := 0, ground := Ground.phase }, { on := 1, ground := Ground.phase }, { on := 2, ground := Ground.phase }, { on := 3, ground := Ground.phase }, { on := 4, ground := Ground.phase }, { on := 5, ground := Ground.phase }, { on := 6, ground := Ground.phase }], guard := none }) rfl (fun K hK => ?_) AllReady.nil)
        refine step_store_all9 rfl 31 (.tmp 9) (.tmp 52) rfl xD _ [.slice aB k cB, .slice (some ⟨xC, 0, none⟩) n n] rfl rfl ZD.out rfl (by rw [sz9]; rfl) (doc_one _ _ _ _ _ _) ?_
        intro w15 zA kA
        replace ZC := Lib.hid (ZC.out.keeps kA (by simp; omega))
        replace SB := Lib.hid (show Reads w15 (.slice aB k cB) win MB ∧ (win ≠ [] → w1.heap.size ≤ MB ∧ MB ≠ xD ∧ MB < w15.heap.size) from ⟨SB.out.1.ifKept kA (fun hne => by have := (SB.out.2 hne).2.1; simp; exact this), fun hne => by have := SB.out.2 hne; have := kA.size; omega⟩)
        replace ZD := Lib.hid zA
        replace KW := Lib.hid (KW.out.then kA (fun q hq => .inr (by simp at hq; omega)))
        clear kA zA
        refine hK _ _ ?_
        clear hK K
        try simp only [Act.put, List.getElem_toArray, List.getElem_cons_succ, List.getElem_cons_zero, List.setIfInBounds_toArray, List.set_cons_succ, List.set_cons_zero]
        refine wpAny_done (by kernel_rfl) ?_ _
        go_wp2_with fail
        go_meet
        case rel => exact ⟨xD, rfl, Lib.hid ⟨KW.out, hsD, aB, cB, MB, xC, by rw [← HKL.out, HZ.out.2]; exact ZD.out, by rw [← HKL.out]; exact SB.out.1, ZC.out, hsC, hCD, SB.out.2⟩⟩
    · go_simp
      refine hK _ _ ?_
      clear hK K
      have kA := Keeps.alloc [] w10 (.cells #[.slice none 0 0, .slice none 0 0] 31)
      have zA := Whole.new w10 31 [.slice none 0 0, .slice none 0 0]
      have hsD := KW.out.size
      replace KW := Lib.hid (KW.out.trans kA)
      have ZD := Lib.hid zA
      clear zA kA
      change wpAny _ _ _ _ _ _ _ (w10.alloc (.cells #[.slice none 0 0, .slice none 0 0] 31))
      generalize w10.alloc (.cells #[.slice none 0 0, .slice none 0 0] 31) = w11 at *
      generalize w10.heap.size = xD at *
      try simp only [Act.put, List.getElem_toArray, List.getElem_cons_succ, List.getElem_cons_zero, List.setIfInBounds_toArray, List.set_cons_succ, List.set_cons_zero]
      refine wpAny_ready (rs := [0, 4]) (by kernel_rfl) (by simp) (AllReady.cons (o := { dst := some 47, op := Op.buildSlice 22 0 #[], type := 22, pos := "law.go:47", after := #[], guard := none }) rfl (fun K hK => ?_) (AllReady.cons (o := { dst := some 51, op := Op.makeSlice 22 (Operand.tmp 50) (Operand.tmp 50), type := 22, pos := "law.go:47", after := #[{ on := 3, ground := Ground.data }, { on := 3, ground := Ground.data }], guard := none }) rfl (fun K hK => ?_) AllReady.nil))
      · go_simp
        refine hK _ _ ?_
        clear hK K
        have kA := Keeps.alloc [] w11 (.cells #[] 5)
        have zA := Whole.new w11 5 []
        have hsA := KW.out.size
        have hDA := ZD.out.lt
        replace ZD := Lib.hid (ZD.out.keeps kA (by simp))
        replace KW := Lib.hid (KW.out.trans kA)
        have ZA := Lib.hid zA
        clear zA kA
        change wpAny _ _ _ _ _ _ _ (w11.alloc (.cells #[] 5))
        generalize w11.alloc (.cells #[] 5) = w12 at *
        generalize w11.heap.size = xA at *
        replace hDA : xA ≠ xD := by omega
        have hAD := hDA
        try simp only [Act.put, List.getElem_toArray, List.getElem_cons_succ, List.getElem_cons_zero, List.setIfInBounds_toArray, List.set_cons_succ, List.set_cons_zero]
        refine wpAny_ready (rs := [2, 4]) (by kernel_rfl) (by simp) (AllReady.cons (o := { dst := some 49, op := Op.call { callee := Callee.builtin Builtin.append, args := #[Operand.tmp 47, Operand.tmp 48], argTypes := #[22, 22] }, type := 22, pos := "law.go:47", after := #[{ on := 0, ground := Ground.data }, { on := 1, ground := Ground.data }], guard := none }) rfl (fun K hK => ?_) (AllReady.cons (o := { dst := some 51, op := Op.makeSlice 22 (Operand.tmp 50) (Operand.tmp 50), type := 22, pos := "law.go:47", after := #[{ on := 3, ground := Ground.data }, { on := 3, ground := Ground.data }], guard := none }) rfl (fun K hK => ?_) AllReady.nil))
        · obtain ⟨aB, cB, w13, MB, hapB, kA, _, hrB, hMB⟩ := run_append_b w12 22 (.slice a k cap) win Mw (HWR1.out _ KW.out) (by have := HWL.out; omega) xA ZA.out
          rw [← HKL.out] at hapB hrB
          refine step_append_known rfl (.tmp 47) (.tmp 48) rfl (.slice (some ⟨xA, 0, none⟩) 0 0) (.slice a k cap) (.slice aB k cB) w13 (by go_simp) (by go_simp) (fun ty => hapB) ?_
          refine hK _ _ ?_
          clear hK K
          have hsz := kA.size
          have hs1 := KW.out.size
          have hlD := ZD.out.lt
          replace ZD := Lib.hid (ZD.out.keeps kA (by simp; omega))
          have SB := Lib.hid (show Reads w13 (.slice aB k cB) win MB ∧ (win ≠ [] → w1.heap.size ≤ MB ∧ MB ≠ xD ∧ MB < w13.heap.size) from ⟨hrB, fun hne => by have h1 := (hMB hne).1; have h2 := (hMB hne).2.2.lt; refine ⟨by omega, ?_, h2⟩; omega⟩)
          replace KW := Lib.hid (KW.out.then kA (fun q hq => .inr (by simp at hq; omega)))
          clear hapB kA hrB hMB hsz hs1 hlD ZA
          try simp only [Act.put, List.getElem_toArray, List.getElem_cons_succ, List.getElem_cons_zero, List.setIfInBounds_toArray, List.set_cons_succ, List.set_cons_zero]
          refine wpAny_ready (rs := [4]) (by kernel_rfl) (by simp) (AllReady.cons (o := { dst := some 51, op := Op.makeSlice 22 (Operand.tmp 50) (Operand.tmp 50), type := 22, pos := "law.go:47", after := #[{ on := 3, ground := Ground.data }, { on := 3, ground := Ground.data }], guard := none }) rfl (fun K hK => ?_) AllReady.nil)
          go_simp
          refine hK _ _ ?_
          clear hK K
          have kA := Keeps.alloc [] w13 (.cells (zs.map bv).toArray 5)
          have zA := Whole.new w13 5 (zs.map bv)
          have hsC := KW.out.size
          have hDC := ZD.out.lt
          replace ZD := Lib.hid (ZD.out.keeps kA (by simp))
          have hBC := SB.out.2
          replace KW := Lib.hid (KW.out.trans kA)
          have ZC := Lib.hid zA
          have SB' := SB.out.1.keeps kA (by simp)
          have sz := kA.size
          clear zA
          change wpAny _ _ _ _ _ _ _ (w13.alloc (.cells (zs.map bv).toArray 5))
          generalize w13.alloc (.cells (zs.map bv).toArray 5) = w14 at *
          replace SB := Lib.hid (show Reads w14 (.slice aB k cB) win MB ∧ (win ≠ [] → w1.heap.size ≤ MB ∧ MB ≠ xD ∧ MB < w14.heap.size) from ⟨SB', fun hne => by have := hBC hne; refine ⟨by omega, ?_, by omega⟩; exact this.2.1⟩)
          clear SB' sz hBC kA
          generalize w13.heap.size = xC at *
          replace hDC : xC ≠ xD := by omega
          have hCD := hDC
          try simp only [Act.put, List.getElem_toArray, List.getElem_cons_succ, List.getElem_cons_zero, List.setIfInBounds_toArray, List.set_cons_succ, List.set_cons_zero]
          refine wpAny_take (i := 5) (v := ?_) rfl (by kernel_rfl) (by kernel_rfl) (by kernel_rfl) (fun _ _ _ h => h) (Or.inl ⟨by rfl, by intro w; go_simp; with_reducible rfl⟩) ?_
          try simp only [Act.put, List.getElem_toArray, List.getElem_cons_succ, List.getElem_cons_zero, List.setIfInBounds_toArray, List.set_cons_succ, List.set_cons_zero]
          refine wpAny_ready (rs := [7]) (by kernel_rfl) (by simp) (AllReady.cons (o := { dst := none, op := Op.store 31 (Operand.tmp 9) (Operand.tmp 52), type := 0, pos := "law.go:47", after := #[{ on := 6, ground := Ground.data }, { on := 5, ground := Ground.data }, { on := 2, ground := Ground.chain }, { on := 0, ground := Ground.phase }, { on := 1, ground := Ground.phase }, { on := 2, ground := Ground.phase }, { on := 3, ground := Ground.phase }, { on := 4, ground := Ground.phase }, { on := 5, ground := Ground.phase }, { on := 6, ground := Ground.phase }], guard := none }) rfl (fun K hK => ?_) AllReady.nil)
          refine step_store_all9 rfl 31 (.tmp 9) (.tmp 52) rfl xD _ [.slice aB k cB, .slice (some ⟨xC, 0, none⟩) n n] rfl rfl ZD.out rfl (by rw [sz9]; rfl) (doc_one _ _ _ _ _ _) ?_
          intro w15 zA kA
          replace ZC := Lib.hid (ZC.out.keeps kA (by simp; omega))
          replace SB := Lib.hid (show Reads w15 (.slice aB k cB) win MB ∧ (win ≠ [] → w1.heap.size ≤ MB ∧ MB ≠ xD ∧ MB < w15.heap.size) from ⟨SB.out.1.ifKept kA (fun hne => by have := (SB.out.2 hne).2.1; simp; exact this), fun hne => by have := SB.out.2 hne; have := kA.size; omega⟩)
          replace ZD := Lib.hid zA
          replace KW := Lib.hid (KW.out.then kA (fun q hq => .inr (by simp at hq; omega)))
          clear kA zA
          refine hK _ _ ?_
          clear hK K
          try simp only [Act.put, List.getElem_toArray, List.getElem_cons_succ, List.getElem_cons_zero, List.setIfInBounds_toArray, List.set_cons_succ, List.set_cons_zero]
          refine wpAny_done (by kernel_rfl) ?_ _
          go_wp2_with fail
          go_meet
          case rel => exact ⟨xD, rfl, Lib.hid ⟨KW.out, hsD, aB, cB, MB, xC, by rw [← HKL.out, HZ.out.2]; exact ZD.out, by rw [← HKL.out]; exact SB.out.1, ZC.out, hsC, hCD, SB.out.2⟩⟩
        · go_simp
          refine hK _ _ ?_
          clear hK K
          have kA := Keeps.alloc [] w12 (.cells (zs.map bv).toArray 5)
          have zA := Whole.new w12 5 (zs.map bv)
          have hsC := KW.out.size
          have hAC := ZA.out.lt
          replace ZA := Lib.hid (ZA.out.keeps kA (by simp))
          have hDC := ZD.out.lt
          replace ZD := Lib.hid (ZD.out.keeps kA (by simp))
          replace KW := Lib.hid (KW.out.trans kA)
          have ZC := Lib.hid zA
          clear zA kA
          change wpAny _ _ _ _ _ _ _ (w12.alloc (.cells (zs.map bv).toArray 5))
          generalize w12.alloc (.cells (zs.map bv).toArray 5) = w13 at *
          generalize w12.heap.size = xC at *
          replace hAC : xA ≠ xC := by omega
          replace hDC : xC ≠ xD := by omega
          have hCD := hDC
          try simp only [Act.put, List.getElem_toArray, List.getElem_cons_succ, List.getElem_cons_zero, List.setIfInBounds_toArray, List.set_cons_succ, List.set_cons_zero]
          refine wpAny_ready (rs := [2]) (by kernel_rfl) (by simp) (AllReady.cons (o := { dst := some 49, op := Op.call { callee := Callee.builtin Builtin.append, args := #[Operand.tmp 47, Operand.tmp 48], argTypes := #[22, 22] }, type := 22, pos := "law.go:47", after := #[{ on := 0, ground := Ground.data }, { on := 1, ground := Ground.data }], guard := none }) rfl (fun K hK => ?_) AllReady.nil)
          obtain ⟨aB, cB, w14, MB, hapB, kA, _, hrB, hMB⟩ := run_append_b w13 22 (.slice a k cap) win Mw (HWR1.out _ KW.out) (by have := HWL.out; omega) xA ZA.out
          rw [← HKL.out] at hapB hrB
          refine step_append_known rfl (.tmp 47) (.tmp 48) rfl (.slice (some ⟨xA, 0, none⟩) 0 0) (.slice a k cap) (.slice aB k cB) w14 (by go_simp) (by go_simp) (fun ty => hapB) ?_
          refine hK _ _ ?_
          clear hK K
          have hsz := kA.size
          have hs1 := KW.out.size
          have hlC := ZC.out.lt
          replace ZC := Lib.hid (ZC.out.keeps kA (by simp; omega))
          have hlD := ZD.out.lt
          replace ZD := Lib.hid (ZD.out.keeps kA (by simp; omega))
          have SB := Lib.hid (show Reads w14 (.slice aB k cB) win MB ∧ (win ≠ [] → w1.heap.size ≤ MB ∧ MB ≠ xD ∧ MB < w14.heap.size) from ⟨hrB, fun hne => by have h1 := (hMB hne).1; have h2 := (hMB hne).2.2.lt; refine ⟨by omega, ?_, h2⟩; omega⟩)
          replace KW := Lib.hid (KW.out.then kA (fun q hq => .inr (by simp at hq; omega)))
          clear hapB kA hrB hMB hsz hs1 hlC hlD ZA
          try simp only [Act.put, List.getElem_toArray, List.getElem_cons_succ, List.getElem_cons_zero, List.setIfInBounds_toArray, List.set_cons_succ, List.set_cons_zero]
          refine wpAny_take (i := 5) (v := ?_) rfl (by kernel_rfl) (by kernel_rfl) (by kernel_rfl) (fun _ _ _ h => h) (Or.inl ⟨by rfl, by intro w; go_simp; with_reducible rfl⟩) ?_
          try simp only [Act.put, List.getElem_toArray, List.getElem_cons_succ, List.getElem_cons_zero, List.setIfInBounds_toArray, List.set_cons_succ, List.set_cons_zero]
          refine wpAny_ready (rs := [7]) (by kernel_rfl) (by simp) (AllReady.cons (o := { dst := none, op := Op.store 31 (Operand.tmp 9) (Operand.tmp 52), type := 0, pos := "law.go:47", after := #[{ on := 6, ground := Ground.data }, { on := 5, ground := Ground.data }, { on := 2, ground := Ground.chain }, { on := 0, ground := Ground.phase }, { on := 1, ground := Ground.phase }, { on := 2, ground := Ground.phase }, { on := 3, ground := Ground.phase }, { on := 4, ground := Ground.phase }, { on := 5, ground := Ground.phase }, { on := 6, ground := Ground.phase }], guard := none }) rfl (fun K hK => ?_) AllReady.nil)
          refine step_store_all9 rfl 31 (.tmp 9) (.tmp 52) rfl xD _ [.slice aB k cB, .slice (some ⟨xC, 0, none⟩) n n] rfl rfl ZD.out rfl (by rw [sz9]; rfl) (doc_one _ _ _ _ _ _) ?_
          intro w15 zA kA
          replace ZC := Lib.hid (ZC.out.keeps kA (by simp; omega))
          replace SB := Lib.hid (show Reads w15 (.slice aB k cB) win MB ∧ (win ≠ [] → w1.heap.size ≤ MB ∧ MB ≠ xD ∧ MB < w15.heap.size) from ⟨SB.out.1.ifKept kA (fun hne => by have := (SB.out.2 hne).2.1; simp; exact this), fun hne => by have := SB.out.2 hne; have := kA.size; omega⟩)
          replace ZD := Lib.hid zA
          replace KW := Lib.hid (KW.out.then kA (fun q hq => .inr (by simp at hq; omega)))
          clear kA zA
          refine hK _ _ ?_
          clear hK K
          try simp only [Act.put, List.getElem_toArray, List.getElem_cons_succ, List.getElem_cons_zero, List.setIfInBounds_toArray, List.set_cons_succ, List.set_cons_zero]
          refine wpAny_done (by kernel_rfl) ?_ _
          go_wp2_with fail
          go_meet
          case rel => exact ⟨xD, rfl, Lib.hid ⟨KW.out, hsD, aB, cB, MB, xC, by rw [← HKL.out, HZ.out.2]; exact ZD.out, by rw [← HKL.out]; exact SB.out.1, ZC.out, hsC, hCD, SB.out.2⟩⟩
      · go_simp
        refine hK _ _ ?_
        clear hK K
        have kA := Keeps.alloc [] w11 (.cells (zs.map bv).toArray 5)
        have zA := Whole.new w11 5 (zs.map bv)
        have hsC := KW.out.size
        have hDC := ZD.out.lt
        replace ZD := Lib.hid (ZD.out.keeps kA (by simp))
        replace KW := Lib.hid (KW.out.trans kA)
        have ZC := Lib.hid zA
        clear zA kA
        change wpAny _ _ _ _ _ _ _ (w11.alloc (.cells (zs.map bv).toArray 5))
        generalize w11.alloc (.cells (zs.map bv).toArray 5) = w12 at *
        generalize w11.heap.size = xC at *
        replace hDC : xC ≠ xD := by omega
        have hCD := hDC
        try simp only [Act.put, List.getElem_toArray, List.getElem_cons_succ, List.getElem_cons_zero, List.setIfInBounds_toArray, List.set_cons_succ, List.set_cons_zero]
        refine wpAny_ready (rs := [0]) (by kernel_rfl) (by simp) (AllReady.cons (o := { dst := some 47, op := Op.buildSlice 22 0 #[], type := 22, pos := "law.go:47", after := #[], guard := none }) rfl (fun K hK => ?_) AllReady.nil)
        go_simp
        refine hK _ _ ?_
        clear hK K
        have kA := Keeps.alloc [] w12 (.cells #[] 5)
        have zA := Whole.new w12 5 []
        have hsA := KW.out.size
        have hCA := ZC.out.lt
        replace ZC := Lib.hid (ZC.out.keeps kA (by simp))
        have hDA := ZD.out.lt
        replace ZD := Lib.hid (ZD.out.keeps kA (by simp))
        replace KW := Lib.hid (KW.out.trans kA)
        have ZA := Lib.hid zA
        clear zA kA
        change wpAny _ _ _ _ _ _ _ (w12.alloc (.cells #[] 5))
        generalize w12.alloc (.cells #[] 5) = w13 at *
        generalize w12.heap.size = xA at *
        replace hCA : xA ≠ xC := by omega
        have hAC := hCA
        replace hDA : xA ≠ xD := by omega
        have hAD := hDA
        try simp only [Act.put, List.getElem_toArray, List.getElem_cons_succ, List.getElem_cons_zero, List.setIfInBounds_toArray, List.set_cons_succ, List.set_cons_zero]
        refine wpAny_ready (rs := [2]) (by kernel_rfl) (by simp) (AllReady.cons (o := { dst := some 49, op := Op.call { callee := Callee.builtin Builtin.append, args := #[Operand.tmp 47, Operand.tmp 48], argTypes := #[22, 22] }, type := 22, pos := "law.go:47", after := #[{ on := 0, ground := Ground.data }, { on := 1, ground := Ground.data }], guard := none }) rfl (fun K hK => ?_) AllReady.nil)
        obtain ⟨aB, cB, w14, MB, hapB, kA, _, hrB, hMB⟩ := run_append_b w13 22 (.slice a k cap) win Mw (HWR1.out _ KW.out) (by have := HWL.out; omega) xA ZA.out
        rw [← HKL.out] at hapB hrB
        refine step_append_known rfl (.tmp 47) (.tmp 48) rfl (.slice (some ⟨xA, 0, none⟩) 0 0) (.slice a k cap) (.slice aB k cB) w14 (by go_simp) (by go_simp) (fun ty => hapB) ?_
        refine hK _ _ ?_
        clear hK K
        have hsz := kA.size
        have hs1 := KW.out.size
        have hlC := ZC.out.lt
        replace ZC := Lib.hid (ZC.out.keeps kA (by simp; omega))
        have hlD := ZD.out.lt
        replace ZD := Lib.hid (ZD.out.keeps kA (by simp; omega))
        have SB := Lib.hid (show Reads w14 (.slice aB k cB) win MB ∧ (win ≠ [] → w1.heap.size ≤ MB ∧ MB ≠ xD ∧ MB < w14.heap.size) from ⟨hrB, fun hne => by have h1 := (hMB hne).1; have h2 := (hMB hne).2.2.lt; refine ⟨by omega, ?_, h2⟩; omega⟩)
        replace KW := Lib.hid (KW.out.then kA (fun q hq => .inr (by simp at hq; omega)))
        clear hapB kA hrB hMB hsz hs1 hlC hlD ZA
        try simp only [Act.put, List.getElem_toArray, List.getElem_cons_succ, List.getElem_cons_zero, List.setIfInBounds_toArray, List.set_cons_succ, List.set_cons_zero]
        refine wpAny_take (i := 5) (v := ?_) rfl (by kernel_rfl) (by kernel_rfl) (by kernel_rfl) (fun _ _ _ h => h) (Or.inl ⟨by rfl, by intro w; go_simp; with_reducible rfl⟩) ?_
        try simp only [Act.put, List.getElem_toArray, List.getElem_cons_succ, List.getElem_cons_zero, List.setIfInBounds_toArray, List.set_cons_succ, List.set_cons_zero]
        refine wpAny_ready (rs := [7]) (by kernel_rfl) (by simp) (AllReady.cons (o := { dst := none, op := Op.store 31 (Operand.tmp 9) (Operand.tmp 52), type := 0, pos := "law.go:47", after := #[{ on := 6, ground := Ground.data }, { on := 5, ground := Ground.data }, { on := 2, ground := Ground.chain }, { on := 0, ground := Ground.phase }, { on := 1, ground := Ground.phase }, { on := 2, ground := Ground.phase }, { on := 3, ground := Ground.phase }, { on := 4, ground := Ground.phase }, { on := 5, ground := Ground.phase }, { on := 6, ground := Ground.phase }], guard := none }) rfl (fun K hK => ?_) AllReady.nil)
        refine step_store_all9 rfl 31 (.tmp 9) (.tmp 52) rfl xD _ [.slice aB k cB, .slice (some ⟨xC, 0, none⟩) n n] rfl rfl ZD.out rfl (by rw [sz9]; rfl) (doc_one _ _ _ _ _ _) ?_
        intro w15 zA kA
        replace ZC := Lib.hid (ZC.out.keeps kA (by simp; omega))
        replace SB := Lib.hid (show Reads w15 (.slice aB k cB) win MB ∧ (win ≠ [] → w1.heap.size ≤ MB ∧ MB ≠ xD ∧ MB < w15.heap.size) from ⟨SB.out.1.ifKept kA (fun hne => by have := (SB.out.2 hne).2.1; simp; exact this), fun hne => by have := SB.out.2 hne; have := kA.size; omega⟩)
        replace ZD := Lib.hid zA
        replace KW := Lib.hid (KW.out.then kA (fun q hq => .inr (by simp at hq; omega)))
        clear kA zA
        refine hK _ _ ?_
        clear hK K
        try simp only [Act.put, List.getElem_toArray, List.getElem_cons_succ, List.getElem_cons_zero, List.setIfInBounds_toArray, List.set_cons_succ, List.set_cons_zero]
        refine wpAny_done (by kernel_rfl) ?_ _
        go_wp2_with fail
        go_meet
        case rel => exact ⟨xD, rfl, Lib.hid ⟨KW.out, hsD, aB, cB, MB, xC, by rw [← HKL.out, HZ.out.2]; exact ZD.out, by rw [← HKL.out]; exact SB.out.1, ZC.out, hsC, hCD, SB.out.2⟩⟩
  case rest =>
    obtain ⟨R, rfl, HND⟩ := hcut
    obtain ⟨V0, rfl⟩ : ∃ V0, V0 = wc := ⟨_, rfl⟩
    have HP0 := Lib.hid (show ∃ (M : Nat) (wv : Value) (aw : Option Addr) (cw Mw : Nat) (ar : Option Addr) (cr Mr : Nat), PairM w V0 g rb R M wv aw cw Mw ar cr Mr win zs from by
      obtain ⟨hk0, hR, aw, cw, Mwd, Mr, hdoc, hrw, hzr, hMr, hMrR, hMwR⟩ := HND.out
      have hg := HM1.out.whole.lt
      have hrb := HM1.out.row.lt
      have hs1 := HK1.out.size
      have hz4 : 4 ≤ zs.length ∧ zs.length ≤ 400 := by have := HZ.out.2; omega
      refine ⟨M, wv, aw, cw, Mwd, some ⟨Mr, 0, none⟩, zs.length, Mr, HK1.out.trans hk0, HM1.out.next hk0, hdoc, hrw, .inr ⟨⟨Mr, 0, none⟩, _, rfl, Nat.le_refl _, fun _ => rfl, fun i c hi => by rw [Addr.add_off, Nat.zero_add, hzr.cell i]; simp [hi]⟩, by omega, by omega, by omega, fun hw => by have := (HM1.out.winM hw).2.1; omega, fun hw => by have := hMwR hw; exact ⟨by omega, by omega, this.2.1, this.2.2⟩, ⟨by omega, by omega, hMrR, hzr.lt⟩, HWL.out, hz4.2⟩)
    clear HND HM1 HK1 HNEW HWR1 hmk HZ HWR
    generalize zs = ram0 at *
    have hcutO := hcut
    go_wp2_with fail
    go_loopw [11, 12, 13, 14, 61] (fun _ _ _ _ ix wr => ∃ (j : Nat) (win ram : List UInt8), j ≤ K ∧ ix = .int .i64 j ∧ Hid (∃ (M : Nat) (wv : Value) (aw : Option Addr) (cw Mw : Nat) (ar : Option Addr) (cr Mr : Nat), PairM w wr g rb R M wv aw cw Mw ar cr Mr win ram)) (fun _ _ _ _ ix _ => K - (intOf ix).toNat)
    case atStart => exact ⟨0, win, ram0, by omega, rfl, HP0⟩
    case round =>
      obtain ⟨j, win, ram, hj, rfl, hp⟩ := hrel
      clear HP0
      by_cases hlt : j < K
      · have hji : (j : Int) < K := by omega
        obtain ⟨M, wv, aw, cw, Mw, ar, cr, Mr, hpa⟩ := hp.out
        obtain ⟨bO, oO, hao, hall⟩ := HOPS.out (by have := HKN.out; omega)
        obtain ⟨d, A, B, q, x, wa, wac, nw, Mn, hop⟩ := hall j (by have := HKN.out; omega)
        have hMn : nw ≠ [] → Mn < w.heap.size := fun hne => hop.2.2.2.2.2.1.lt hne
        obtain ⟨hd, hA, hB, hq, hx, hnr, c0, c1, c2, c3, c4, c5⟩ := hop.keeps hpa.kept
        subst hao
        have HPA := Lib.hid hpa
        have hdd : (d : Int) % 5 = 0 ∨ (d : Int) % 5 = 1 ∨ (d : Int) % 5 = 2 ∨ (d : Int) % 5 = 3 ∨ (d : Int) % 5 = 4 := by omega
        obtain ⟨k4, hk4⟩ : ∃ k4, k4 = min nw.length 400 := ⟨_, rfl⟩
        have hmn2 := fun w ts t => run_min9 w ts t (nw.length : Int) 400 k4 (by omega)
        obtain ⟨pn, pcn, hcut2, hnr2⟩ := hnr.head k4 (by omega)
        have htk : (nw.take k4).length = k4 := by simp; omega
        rw [htk] at hcut2 hnr2
        have HNW := Lib.hid hnr2
        have HNL := Lib.hid (show (nw.take k4).length = k4 ∧ k4 ≤ 400 from ⟨htk, by omega⟩)
        have HMN := Lib.hid (show nw.take k4 ≠ [] → Mn < w.heap.size from fun hne => hMn (by intro e; rw [e] at hne; simp at hne))
        clear hMn
        generalize nw.take k4 = nx at *
        generalize nw.length = nwl at *
        clear hpa hall hop hk4 hnr hnr2 htk hp
        have lg := HPA.out.mem.whole.lt
        have lrb := HPA.out.mem.row.lt
        have lR := HPA.out.doc.lt
        have HOA := Lib.hid (show wr.heap.size ≠ g ∧ wr.heap.size ≠ rb ∧ wr.heap.size ≠ R from by omega)
        go_upto_region 12 with fail
        generalize hV : World.alloc wr _ = V
        have kV : Keeps [] wr V := by rw [← hV]; exact Keeps.alloc [] wr _
        have HPV := Lib.hid (HPA.out.next kV)
        have wO : Whole V wr.heap.size 34 [.int .u8 d, .int .u32 A, .int .u32 B, .int .u32 q, .int .u32 x, .slice wa nwl wac] := by rw [← hV]; exact Whole.new wr 34 [.int .u8 d, .int .u32 A, .int .u32 B, .int .u32 q, .int .u32 x, .slice wa nwl wac]
        have o0 := wO.cell 0
        have o1 := wO.cell 1
        have o2 := wO.cell 2
        have o3 := wO.cell 3
        have o4 := wO.cell 4
        have o5 := wO.cell 5
        simp only [List.getElem?_cons_zero, List.getElem?_cons_succ] at o0 o1 o2 o3 o4 o5
        have HNWV := Lib.hid (HNW.out.keeps kV (by simp))
        have hOV := wO.lt
        have HOV := Lib.hid hOV
        clear hV kV wO c0 c1 c2 c3 c4 c5 lg lrb lR HPA hOV HNW
        generalize hOO : wr.heap.size = O at *
        clear hOO
        have a1i : (A : Int) < 4294967296 := by omega
        have b1i : (B : Int) < 4294967296 := by omega
        have q1i : (q : Int) < 4294967296 := by omega
        have x1i : (x : Int) < 4294967296 := by omega
        have HBD := Lib.hid (show A < 4294967296 ∧ B < 4294967296 ∧ q < 4294967296 ∧ x < 4294967296 from ⟨hA, hB, hq, hx⟩)
        clear hA hB hq hx
        have p0 := HPV.out.mem.ram4
        have HLW := Lib.hid (show win.length ≤ 65536 ∧ ram.length ≤ 65536 ∧ 4 ≤ ram.length from by have := HPV.out.wl4; omega)
        clear p0
        obtain ⟨xb, hxb⟩ : ∃ xb : Int, (x : Int) % 256 = xb := ⟨_, rfl⟩
        have HXB := Lib.hid (show bv (UInt8.ofNat x) = .int .u8 xb ∧ xb = ((UInt8.ofNat x).toNat : Int) from by
          have := byte_cell x
          rw [hxb] at this
          refine ⟨this, ?_⟩
          unfold bv at this
          injection this with _ this
          exact this.symm)
        generalize UInt8.ofNat x = xc at *
        go_upto_block 2 with fail
        go_cut [12, 13, 14] from 65 to 164 (fun s12 s13 _ wc => ∃ (T : Int) (win' ram' : List UInt8), s12 = .int .i32 T ∧ s13 = .int .i32 T ∧ Hid (∃ (M : Nat) (wv : Value) (aw : Option Addr) (cw Mw : Nat) (ar : Option Addr) (cr Mr : Nat), PairM w wc g rb R M wv aw cw Mw ar cr Mr win' ram') ∧ wc.cell? ⟨O, 1, none⟩ = some (.int .u32 A) ∧ wc.cell? ⟨O, 2, none⟩ = some (.int .u32 B) ∧ wc.cell? ⟨O, 3, none⟩ = some (.int .u32 q))
        case first =>
          rcases hdd with hdd | hdd | hdd | hdd | hdd
          · obtain ⟨T, hT⟩ : ∃ T, T = storeT win ram A := ⟨_, rfl⟩
            obtain ⟨r', hr'⟩ : ∃ r', r' = storeL ram A x := ⟨_, rfl⟩
            have HPu := Lib.hid (Store_at HPV.out.mem A x HBD.out.1 HBD.out.2.2.2)
            rw [← hT, ← hr'] at HPu
            have HRu := Lib.hid (fun (U : World) (h1 : Reads U (.slice aw win.length cw) win Mw) (h2 : Reads U (.slice ar ram.length cr) ram Mr) => show Calls Try.prog 12 #[.agg #[.slice aw win.length cw, .slice ar ram.length cr], .int .u32 A, .int .u32 x] U (DocPut U aw win.length cw ram.length Mr r' T) from by
              rw [hT, hr']; exact r9Store_any U aw cw Mw ar cr Mr win.length ram.length rfl rfl HLW.out.1 HLW.out.2.1 HLW.out.2.2 h1 h2 A HBD.out.1 x HBD.out.2.2.2)
            have HRL := Lib.hid (show r'.length = ram.length from by rw [hr']; exact storeL_length _ _)
            clear hT hr'
            go_upto_region 20 with (first
              | (go_at_call 11; refine HPu.out.mono ?_; rintro e w5 ⟨rfl, hm5, hk5⟩
                 have HM5 := Lib.hid hm5; have HK5 := Lib.hid hk5
                 obtain ⟨wm, r1, r2⟩ := HPV.out.mid hk5
                 have WM := Lib.hid wm; have RD1 := Lib.hid r1; have RD2 := Lib.hid r2
                 replace o1 := hk5.cell o1 (by simp [HOA.out.2.1]); replace o2 := hk5.cell o2 (by simp [HOA.out.2.1]); replace o3 := hk5.cell o3 (by simp [HOA.out.2.1]); replace o4 := hk5.cell o4 (by simp [HOA.out.2.1])
                 have d0 := wm.cell 0; have d1 := wm.cell 1
                 simp only [List.getElem?_cons_zero, List.getElem?_cons_succ] at d0 d1
                 clear hm5 hk5 wm r1 r2))
            go_wp2_with (first
              | (go_at_call 12; refine (HRu.out _ RD1.out RD2.out).mono ?_; rintro e w6 ⟨ar6, cr6, Mr6, rfl, hr6, hM6, hk6⟩
                 have HR6 := Lib.hid hr6; have HMM6 := Lib.hid hM6; have HK6 := Lib.hid hk6
                 have wm6 := WM.out.keeps HK6.out (by simp)
                 replace o1 := HK6.out.cell o1 (by simp); replace o2 := HK6.out.cell o2 (by simp); replace o3 := HK6.out.cell o3 (by simp)
                 have d0 := wm6.cell 0; have d1 := wm6.cell 1
                 simp only [List.getElem?_cons_zero, List.getElem?_cons_succ] at d0 d1
                 have f0 := wm6.frozen 0; have f1 := wm6.frozen 1
                 clear hr6 hM6 hk6 wm6))
            go_meet
            case rel =>
              refine ⟨T, win, r', rfl, rfl, ?_, (sets2 w6 R _ _).cell o1 (by simp [HOA.out.2.2]), (sets2 w6 R _ _).cell o2 (by simp [HOA.out.2.2]), (sets2 w6 R _ _).cell o3 (by simp [HOA.out.2.2])⟩
              exact Lib.hid ⟨_, _, _, _, _, _, _, _, HPV.out.done HK5.out HM5.out HRL.out HK6.out HR6.out HMM6.out⟩
          · obtain ⟨T, hT⟩ : ∃ T, T = pT win ram A 1 := ⟨_, rfl⟩
            obtain ⟨r', hr'⟩ : ∃ r', r' = pL ram A [xc] := ⟨_, rfl⟩
            have HPu := Lib.hid ((by have := SetByte_at HPV.out.mem A HBD.out.1 xc; rw [HXB.out.1] at this; exact this))
            rw [← hT, ← hr'] at HPu
            have HRu := Lib.hid (fun (U : World) (h1 : Reads U (.slice aw win.length cw) win Mw) (h2 : Reads U (.slice ar ram.length cr) ram Mr) (b : Nat) (hb : Reads U (.slice (some ⟨b, 0, none⟩) 1 1) [xc] b) => show Calls Try.prog 14 #[.agg #[.slice aw win.length cw, .slice ar ram.length cr], .int .u64 A, .slice (some ⟨b, 0, none⟩) 1 1] U (DocPut U aw win.length cw ram.length Mr r' T) from by
              rw [hT, hr']; exact Put_any U aw cw Mw ar cr Mr win.length ram.length rfl rfl HLW.out.1 HLW.out.2.1 HLW.out.2.2 h2 A HBD.out.1 [xc] (some ⟨b, 0, none⟩) 1 1 b hb rfl (by show 1 < _; decide))
            have HRL := Lib.hid (show r'.length = ram.length from by rw [hr']; exact pL_length _ _ _)
            clear hT hr'
            go_upto_region 23 with (first
              | (go_at_call 13; refine HPu.out.mono ?_; rintro e w5 ⟨rfl, hm5, hk5⟩
                 have HM5 := Lib.hid hm5; have HK5 := Lib.hid hk5
                 obtain ⟨wm, r1, r2⟩ := HPV.out.mid hk5
                 have WM := Lib.hid wm; have RD1 := Lib.hid r1; have RD2 := Lib.hid r2
                 replace o1 := hk5.cell o1 (by simp [HOA.out.2.1]); replace o2 := hk5.cell o2 (by simp [HOA.out.2.1]); replace o3 := hk5.cell o3 (by simp [HOA.out.2.1]); replace o4 := hk5.cell o4 (by simp [HOA.out.2.1])
                 have d0 := wm.cell 0; have d1 := wm.cell 1
                 simp only [List.getElem?_cons_zero, List.getElem?_cons_succ] at d0 d1
                 clear hm5 hk5 wm r1 r2))
            go_wp2_with (first
              | (go_at_call 14; refine (HRu.out _ (RD1.out.keeps (Keeps.alloc [] _ _) (by simp)) (RD2.out.keeps (Keeps.alloc [] _ _) (by simp)) _ (Reads.lit w5 [xc] _ _ 1 (0, 0) (by rw [List.map_cons, HXB.out.1]; rfl) rfl)).mono ?_; rintro e w6 ⟨ar6, cr6, Mr6, rfl, hr6, hM6, hk6⟩
                 have HR6 := Lib.hid hr6; have HMM6 := Lib.hid hM6; have HK6 := Lib.hid ((Keeps.alloc [] _ _).trans hk6)
                 have wm6 := WM.out.keeps HK6.out (by simp)
                 replace o1 := HK6.out.cell o1 (by simp); replace o2 := HK6.out.cell o2 (by simp); replace o3 := HK6.out.cell o3 (by simp)
                 have d0 := wm6.cell 0; have d1 := wm6.cell 1
                 simp only [List.getElem?_cons_zero, List.getElem?_cons_succ] at d0 d1
                 have f0 := wm6.frozen 0; have f1 := wm6.frozen 1
                 clear hr6 hM6 hk6 wm6))
            go_meet
            case rel =>
              refine ⟨T, win, r', rfl, rfl, ?_, (sets2 w6 R _ _).cell o1 (by simp [HOA.out.2.2]), (sets2 w6 R _ _).cell o2 (by simp [HOA.out.2.2]), (sets2 w6 R _ _).cell o3 (by simp [HOA.out.2.2])⟩
              exact Lib.hid ⟨_, _, _, _, _, _, _, _, HPV.out.done HK5.out HM5.out HRL.out HK6.out HR6.out (by rcases HMM6.out with h | h; exact .inl h; exact .inr (by simp at h; omega))⟩
          · obtain ⟨T, hT⟩ : ∃ T, T = moveT win ram A B q := ⟨_, rfl⟩
            obtain ⟨r', hr'⟩ : ∃ r', r' = moveL win ram A B q := ⟨_, rfl⟩
            have HPu := Lib.hid (Move_at HPV.out.mem A B q HBD.out.1 HBD.out.2.1 HBD.out.2.2.1)
            rw [← hT, ← hr'] at HPu
            have HRu := Lib.hid (fun (U : World) (h1 : Reads U (.slice aw win.length cw) win Mw) (h2 : Reads U (.slice ar ram.length cr) ram Mr) => show Calls Try.prog 16 #[.agg #[.slice aw win.length cw, .slice ar ram.length cr], .int .u32 A, .int .u32 B, .int .u32 q] U (DocPut U aw win.length cw ram.length Mr r' T) from by
              rw [hT, hr']; exact r9Move_any U aw cw Mw ar cr Mr win.length ram.length rfl rfl HLW.out.1 HLW.out.2.1 HLW.out.2.2 h1 h2 A HBD.out.1 B q HBD.out.2.1 HBD.out.2.2.1)
            have HRL := Lib.hid (show r'.length = ram.length from by rw [hr']; exact moveL_length _ _ _ _ _)
            clear hT hr'
            go_upto_region 26 with (first
              | (go_at_call 15; refine HPu.out.mono ?_; rintro e w5 ⟨rfl, hm5, hk5⟩
                 have HM5 := Lib.hid hm5; have HK5 := Lib.hid hk5
                 obtain ⟨wm, r1, r2⟩ := HPV.out.mid hk5
                 have WM := Lib.hid wm; have RD1 := Lib.hid r1; have RD2 := Lib.hid r2
                 replace o1 := hk5.cell o1 (by simp [HOA.out.2.1]); replace o2 := hk5.cell o2 (by simp [HOA.out.2.1]); replace o3 := hk5.cell o3 (by simp [HOA.out.2.1]); replace o4 := hk5.cell o4 (by simp [HOA.out.2.1])
                 have d0 := wm.cell 0; have d1 := wm.cell 1
                 simp only [List.getElem?_cons_zero, List.getElem?_cons_succ] at d0 d1
                 clear hm5 hk5 wm r1 r2))
            go_wp2_with (first
              | (go_at_call 16; refine (HRu.out _ RD1.out RD2.out).mono ?_; rintro e w6 ⟨ar6, cr6, Mr6, rfl, hr6, hM6, hk6⟩
                 have HR6 := Lib.hid hr6; have HMM6 := Lib.hid hM6; have HK6 := Lib.hid hk6
                 have wm6 := WM.out.keeps HK6.out (by simp)
                 replace o1 := HK6.out.cell o1 (by simp); replace o2 := HK6.out.cell o2 (by simp); replace o3 := HK6.out.cell o3 (by simp)
                 have d0 := wm6.cell 0; have d1 := wm6.cell 1
                 simp only [List.getElem?_cons_zero, List.getElem?_cons_succ] at d0 d1
                 have f0 := wm6.frozen 0; have f1 := wm6.frozen 1
                 clear hr6 hM6 hk6 wm6))
            go_meet
            case rel =>
              refine ⟨T, win, r', rfl, rfl, ?_, (sets2 w6 R _ _).cell o1 (by simp [HOA.out.2.2]), (sets2 w6 R _ _).cell o2 (by simp [HOA.out.2.2]), (sets2 w6 R _ _).cell o3 (by simp [HOA.out.2.2])⟩
              exact Lib.hid ⟨_, _, _, _, _, _, _, _, HPV.out.done HK5.out HM5.out HRL.out HK6.out HR6.out HMM6.out⟩
          · obtain ⟨T, hT⟩ : ∃ T, T = pT win ram A q := ⟨_, rfl⟩
            obtain ⟨r', hr'⟩ : ∃ r', r' = pL ram A (List.replicate q xc) := ⟨_, rfl⟩
            have HPu := Lib.hid ((by have := Fill_at HPV.out.mem A q HBD.out.1 HBD.out.2.2.1 xc; rw [HXB.out.1] at this; exact this))
            rw [← hT, ← hr'] at HPu
            have HRu := Lib.hid (fun (U : World) (h1 : Reads U (.slice aw win.length cw) win Mw) (h2 : Reads U (.slice ar ram.length cr) ram Mr) => show Calls Try.prog 18 #[.agg #[.slice aw win.length cw, .slice ar ram.length cr], .int .u32 A, .int .u32 q, .int .u8 xb] U (DocPut U aw win.length cw ram.length Mr r' T) from by
              rw [hT, hr']; exact r9Fill_any U aw cw Mw ar cr Mr win.length ram.length rfl rfl HLW.out.1 HLW.out.2.1 HLW.out.2.2 h1 h2 A HBD.out.1 q HBD.out.2.2.1 xc xb HXB.out.2)
            have HRL := Lib.hid (show r'.length = ram.length from by rw [hr']; exact pL_length _ _ _)
            clear hT hr'
            go_upto_region 29 with (first
              | (go_at_call 17; refine HPu.out.mono ?_; rintro e w5 ⟨rfl, hm5, hk5⟩
                 have HM5 := Lib.hid hm5; have HK5 := Lib.hid hk5
                 obtain ⟨wm, r1, r2⟩ := HPV.out.mid hk5
                 have WM := Lib.hid wm; have RD1 := Lib.hid r1; have RD2 := Lib.hid r2
                 replace o1 := hk5.cell o1 (by simp [HOA.out.2.1]); replace o2 := hk5.cell o2 (by simp [HOA.out.2.1]); replace o3 := hk5.cell o3 (by simp [HOA.out.2.1]); replace o4 := hk5.cell o4 (by simp [HOA.out.2.1])
                 have d0 := wm.cell 0; have d1 := wm.cell 1
                 simp only [List.getElem?_cons_zero, List.getElem?_cons_succ] at d0 d1
                 clear hm5 hk5 wm r1 r2))
            go_wp2_with (first
              | (go_at_call 18; refine (HRu.out _ RD1.out RD2.out).mono ?_; rintro e w6 ⟨ar6, cr6, Mr6, rfl, hr6, hM6, hk6⟩
                 have HR6 := Lib.hid hr6; have HMM6 := Lib.hid hM6; have HK6 := Lib.hid hk6
                 have wm6 := WM.out.keeps HK6.out (by simp)
                 replace o1 := HK6.out.cell o1 (by simp); replace o2 := HK6.out.cell o2 (by simp); replace o3 := HK6.out.cell o3 (by simp)
                 have d0 := wm6.cell 0; have d1 := wm6.cell 1
                 simp only [List.getElem?_cons_zero, List.getElem?_cons_succ] at d0 d1
                 have f0 := wm6.frozen 0; have f1 := wm6.frozen 1
                 clear hr6 hM6 hk6 wm6))
            go_meet
            case rel =>
              refine ⟨T, win, r', rfl, rfl, ?_, (sets2 w6 R _ _).cell o1 (by simp [HOA.out.2.2]), (sets2 w6 R _ _).cell o2 (by simp [HOA.out.2.2]), (sets2 w6 R _ _).cell o3 (by simp [HOA.out.2.2])⟩
              exact Lib.hid ⟨_, _, _, _, _, _, _, _, HPV.out.done HK5.out HM5.out HRL.out HK6.out HR6.out HMM6.out⟩
          · have HSh := Lib.hid (Show_new HPV.out.mem HPV.out.kept.size (.slice pn k4 pcn) nx Mn HNWV.out (by rw [HNL.out.1]; have := HNL.out.2; omega))
            go_upto_region 17 with (first
              | (go_at_call 19; refine HSh.out.mono ?_; rintro e w5 ⟨M5, wv5, rfl, hm5, hk5, hM5⟩
                 have HM5 := Lib.hid hm5; have HK5 := Lib.hid hk5; have HMM5 := Lib.hid hM5
                 replace o1 := hk5.cell o1 (by simp [HOA.out.1]); replace o2 := hk5.cell o2 (by simp [HOA.out.1]); replace o3 := hk5.cell o3 (by simp [HOA.out.1])
                 have HNW5 := Lib.hid (HNWV.out.ifKept hk5 (fun hne => by have h1 := HMN.out hne; have h2 := HPV.out.mem.gH; simp; omega))
                 have WM := Lib.hid (HPV.out.doc.keeps hk5 (by simp [HPV.out.Rg]))
                 clear hm5 hk5 hM5))
            obtain ⟨a7, c7, w7, M7, hap0, hk7, _, hr7, hM7⟩ := run_append_b (w5.alloc (.cells #[] 5)) 22 (.slice pn k4 pcn) nx Mn (HNW5.out.keeps (Keeps.alloc [] _ _) (by simp)) (by have := HNL.out; omega) w5.heap.size (Whole.new w5 5 [])
            rw [HNL.out.1] at hap0 hr7
            have hap : ∀ ty, (Builtin.append_ #[22, 22] ty #[.slice (some ⟨w5.heap.size, 0, none⟩) 0 0, .slice pn k4 pcn]).run Try.prog (w5.alloc (.cells #[] 5)) = .ok (.slice a7 k4 c7) w7 := fun ty => hap0
            have hk57 : Keeps [w5.heap.size] w5 w7 := (Keeps.alloc _ _ _).trans hk7
            have HK7 := Lib.hid hk57
            have HR7 := Lib.hid hr7
            have HM7 := Lib.hid (show nx ≠ [] → w5.heap.size ≤ M7 from fun hne => by have := (hM7 hne).1; simp at this; omega)
            have hRl := WM.out.lt
            have hOl : O < w5.heap.size := by have := HOV.out; have := HK5.out.size; omega
            have wm7 := WM.out.keeps hk57 (by simp; omega)
            have d0 := wm7.cell 0
            simp only [List.getElem?_cons_zero] at d0
            have f0 := wm7.frozen 0
            replace o1 := hk57.cell o1 (by simp; omega); replace o2 := hk57.cell o2 (by simp; omega); replace o3 := hk57.cell o3 (by simp; omega)
            clear hap0 hk7 hr7 hM7 hk57 hRl hOl wm7 o0 o4 o5
            go_wp2_with (first | (at_builtin; refine wpList_append_known rfl _ _ rfl _ _ _ _ rfl rfl hap ?_) | fail)
            go_meet
            case rel =>
              have hks : Keeps [R] w7 (w7.setCell ⟨R, 0, none⟩ (.slice a7 k4 c7)) := Keeps.setCell _ (by simp) _
              refine ⟨0, nx, ram, rfl, rfl, ?_, hks.cell o1 (by simp [HOA.out.2.2]), hks.cell o2 (by simp [HOA.out.2.2]), hks.cell o3 (by simp [HOA.out.2.2])⟩
              have hR7 := HR7.out
              rw [← HNL.out.1] at hR7
              have := HPV.out.shown HK5.out HM5.out (fun hne => HMM5.out hne) HK7.out (Nat.le_refl _) hR7 HM7.out (by rw [HNL.out.1]; exact HNL.out.2)
              rw [HNL.out.1] at this
              exact Lib.hid ⟨_, _, _, _, _, _, _, _, this⟩
        case rest =>
          obtain ⟨T, win', ram', rfl, rfl, HPR, o1, o2, o3⟩ := hcut
          clear HPV HNWV HNL HMN HLW HXB o0 o4 o5 hmn2 hcut2
          generalize hwf : wc = wf at *
          clear hwf
          obtain ⟨M', wv', aw', cw', Mw', ar', cr', Mr', hp7⟩ := HPR.out
          have HP7 := Lib.hid hp7
          obtain ⟨q9, hq9⟩ : ∃ q9, q9 = q % 9 := ⟨_, rfl⟩
          have e9 : (q : Int) % 9 = (q9 : Int) := by rw [hq9]; rfl
          have e9t : (q : Int).tmod 9 = (q9 : Int) := by rw [hq9]; rfl
          have q9b : q9 < 9 := by rw [hq9]; exact Nat.mod_lt _ (by decide)
          have HRm := Lib.hid (fun (U : World) (hU : Keeps [] wf U) => Ram_at (hp7.next hU).mem)
          have HS1 := Lib.hid (fun (U : World) (hU : Keeps [] wf U) => same_any U (hp7.next hU).mem aw' cw' Mw' ar' cr' Mr' win'.length ram'.length rfl rfl (hp7.next hU).rw (hp7.next hU).rr A q HBD.out.1 HBD.out.2.2.1)
          have HS2 := Lib.hid (fun (U : World) (hU : Keeps [] wf U) => same_any U (hp7.next hU).mem aw' cw' Mw' ar' cr' Mr' win'.length ram'.length rfl rfl (hp7.next hU).rw (hp7.next hU).rr B q9 HBD.out.2.1 (by omega))
          obtain ⟨wl', hwl'⟩ : ∃ wl', wl' = win'.length := ⟨_, rfl⟩
          obtain ⟨rl', hrl'⟩ : ∃ rl', rl' = ram'.length := ⟨_, rfl⟩
          have DOCS := Lib.hid (show ∀ U, Keeps [] wf U → (U.cell? ⟨R, 0, none⟩ = some (.slice aw' wl' cw') ∧ U.cell? ⟨R, 1, none⟩ = some (.slice ar' rl' cr') ∧ U.cell? ⟨O, 1, none⟩ = some (.int .u32 A) ∧ U.cell? ⟨O, 2, none⟩ = some (.int .u32 B) ∧ U.cell? ⟨O, 3, none⟩ = some (.int .u32 q) ∧
              (convert 22 9 (.slice ar' rl' cr')).run Try.prog U = .ok (.string ⟨ram'.toArray⟩) U) from by
            intro U hU
            have hw := hp7.doc.keeps hU (by simp)
            rw [hwl', hrl']
            exact ⟨hw.cell 0, hw.cell 1, hU.cell o1 (by simp), hU.cell o2 (by simp), hU.cell o3 (by simp), conv_reads (hp7.rr.keeps hU (by simp))⟩)
          have HRLL := Lib.hid (show ram'.length = rl' from hrl'.symm)
          rw [← hwl', ← hrl'] at HS1 HS2
          rw [← hrl'] at HRm
          clear hp7 hq9 hwl' hrl' o1 o2 o3
          go_upto_region 30 with fail
          have KD := Lib.hid (Keeps.drew [] wf)
          refine wp_region_held_drew (S := fun w' => w'.cell? ⟨R, 0, none⟩ = some (.slice aw' wl' cw') ∧ w'.cell? ⟨R, 1, none⟩ = some (.slice ar' rl' cr') ∧ w'.cell? ⟨O, 1, none⟩ = some (.int .u32 A) ∧ w'.cell? ⟨O, 2, none⟩ = some (.int .u32 B) ∧ w'.cell? ⟨O, 3, none⟩ = some (.int .u32 q) ∧ (convert 22 9 (.slice ar' rl' cr')).run Try.prog w' = .ok (.string ⟨ram'.toArray⟩) w') (by kernel_rfl) (DOCS.out _ KD.out) (fun hS1 => ?_)
          refine wpAnyH_take (i := 0) (v := ?_) rfl (by kernel_rfl) (by kernel_rfl) (by kernel_rfl) (fun _ _ _ h => h) (Or.inl ⟨by rfl, by intro w hSw; (try dsimp only at hSw); go_simp; with_reducible rfl⟩) (by assumption) ?_
          simp only [Act.put, List.getElem_toArray, List.getElem_cons_succ, List.getElem_cons_zero, List.setIfInBounds_toArray, List.set_cons_succ, List.set_cons_zero]
          refine wpAnyH_take (i := 1) (v := ?_) rfl (by kernel_rfl) (by kernel_rfl) (by kernel_rfl) (fun _ _ _ h => h) (Or.inl ⟨by rfl, by intro w hSw; (try dsimp only at hSw); go_simp; with_reducible rfl⟩) (by assumption) ?_
          simp only [Act.put, List.getElem_toArray, List.getElem_cons_succ, List.getElem_cons_zero, List.setIfInBounds_toArray, List.set_cons_succ, List.set_cons_zero]
          refine wpAnyH_take (i := 2) (v := ?_) rfl (by kernel_rfl) (by kernel_rfl) (by kernel_rfl) (fun _ _ _ h => h) (Or.inl ⟨by rfl, by intro w hSw; (try dsimp only at hSw); go_simp; with_reducible rfl⟩) (by assumption) ?_
          simp only [Act.put, List.getElem_toArray, List.getElem_cons_succ, List.getElem_cons_zero, List.setIfInBounds_toArray, List.set_cons_succ, List.set_cons_zero]
          refine wpAnyH_take (i := 3) (v := ?_) rfl (by kernel_rfl) (by kernel_rfl) (by kernel_rfl) (fun _ _ _ h => h) (Or.inl ⟨by rfl, by intro w hSw; (try dsimp only at hSw); go_simp; with_reducible rfl⟩) (by assumption) ?_
          simp only [Act.put, List.getElem_toArray, List.getElem_cons_succ, List.getElem_cons_zero, List.setIfInBounds_toArray, List.set_cons_succ, List.set_cons_zero]
          refine wpAnyH_take (i := 4) (v := ?_) rfl (by kernel_rfl) (by kernel_rfl) (by kernel_rfl) (fun _ _ _ h => h) (Or.inl ⟨by rfl, by intro w hSw; (try dsimp only at hSw); go_simp; with_reducible rfl⟩) (by assumption) ?_
          simp only [Act.put, List.getElem_toArray, List.getElem_cons_succ, List.getElem_cons_zero, List.setIfInBounds_toArray, List.set_cons_succ, List.set_cons_zero]
          refine wpAnyH_take (i := 7) (v := ?_) rfl (by kernel_rfl) (by kernel_rfl) (by kernel_rfl) (fun _ _ _ h => h) (Or.inl ⟨by rfl, by intro w hSw; (try dsimp only at hSw); go_simp; with_reducible rfl⟩) (by assumption) ?_
          simp only [Act.put, List.getElem_toArray, List.getElem_cons_succ, List.getElem_cons_zero, List.setIfInBounds_toArray, List.set_cons_succ, List.set_cons_zero]
          refine wpAnyH_take (i := 8) (v := ?_) rfl (by kernel_rfl) (by kernel_rfl) (by kernel_rfl) (fun _ _ _ h => h) (Or.inl ⟨by rfl, by intro w hSw; (try dsimp only at hSw); go_simp; with_reducible rfl⟩) (by assumption) ?_
          simp only [Act.put, List.getElem_toArray, List.getElem_cons_succ, List.getElem_cons_zero, List.setIfInBounds_toArray, List.set_cons_succ, List.set_cons_zero]
          refine wpAnyH_take (i := 9) (v := ?_) rfl (by kernel_rfl) (by kernel_rfl) (by kernel_rfl) (fun _ _ _ h => h) (Or.inl ⟨by rfl, by intro w hSw; (try dsimp only at hSw); go_simp; with_reducible rfl⟩) (by assumption) ?_
          simp only [Act.put, List.getElem_toArray, List.getElem_cons_succ, List.getElem_cons_zero, List.setIfInBounds_toArray, List.set_cons_succ, List.set_cons_zero]
          refine wpAnyH_ready (rs := [5]) (by kernel_rfl) (by simp) (AllReadyH.cons (o := { dst := some 170, op := Op.call { callee := Callee.value (Operand.func 10), args := #[Operand.tmp 169], argTypes := #[25] }, type := 22, pos := "law.go:73", after := #[{ on := 4, ground := Ground.data }, { on := 3, ground := Ground.chain }, { on := 3, ground := Ground.guard }], guard := some (3, false) }) rfl (fun K hK => ?_) AllReadyH.nil)
          go_simp
          go_wp2_with (go_at_call 10; refine (HRm.out _ KD.out).mono ?_; rintro e w10 ⟨a10, c10, M10, rfl, hr10, _, _, hk⟩; have hcv10 := conv_reads hr10; have K10 := Lib.hid (KD.out.trans hk); have hS10 := DOCS.out _ K10.out; clear hk hr10)
          refine hK.out _ _ hS10 (fun _ => ?_)
          clear hK K
          refine wpAnyH_ready (rs := [6]) (by kernel_rfl) (by simp) (AllReadyH.cons (o := { dst := some 171, op := Op.convert 22 9 (Operand.tmp 170), type := 9, pos := "law.go:73", after := #[{ on := 5, ground := Ground.data }, { on := 3, ground := Ground.guard }], guard := some (3, false) }) rfl (fun K hK => ?_) AllReadyH.nil)
          go_simp
          refine hK.out _ _ hS10 (fun _ => ?_)
          clear hK K
          refine wpAnyH_take (i := 10) (v := ?_) rfl (by kernel_rfl) (by kernel_rfl) (by kernel_rfl) (fun _ _ _ h => h) (Or.inl ⟨by rfl, by intro w hSw; (try dsimp only at hSw); go_simp; with_reducible rfl⟩) (by assumption) ?_
          simp only [Act.put, List.getElem_toArray, List.getElem_cons_succ, List.getElem_cons_zero, List.setIfInBounds_toArray, List.set_cons_succ, List.set_cons_zero]
          refine wpAnyH_take (i := 11) (v := ?_) rfl (by kernel_rfl) (by kernel_rfl) (by kernel_rfl) (fun _ _ _ h => h) (Or.inl ⟨by rfl, by intro w hSw; (try dsimp only at hSw); go_simp; with_reducible rfl⟩) (by assumption) ?_
          simp only [Act.put, List.getElem_toArray, List.getElem_cons_succ, List.getElem_cons_zero, List.setIfInBounds_toArray, List.set_cons_succ, List.set_cons_zero]
          refine wpAnyH_take (i := 12) (v := ?_) rfl (by kernel_rfl) (by kernel_rfl) (by kernel_rfl) (fun _ _ _ h => h) (Or.inl ⟨by rfl, by intro w hSw; (try dsimp only at hSw); go_simp; with_reducible rfl⟩) (by assumption) ?_
          simp only [Act.put, List.getElem_toArray, List.getElem_cons_succ, List.getElem_cons_zero, List.setIfInBounds_toArray, List.set_cons_succ, List.set_cons_zero]
          refine wpAnyH_take (i := 13) (v := ?_) rfl (by kernel_rfl) (by kernel_rfl) (by kernel_rfl) (fun _ _ _ h => h) (Or.inl ⟨by rfl, by intro w hSw; (try dsimp only at hSw); go_simp; with_reducible rfl⟩) (by assumption) ?_
          simp only [Act.put, List.getElem_toArray, List.getElem_cons_succ, List.getElem_cons_zero, List.setIfInBounds_toArray, List.set_cons_succ, List.set_cons_zero]
          refine wpAnyH_take (i := 14) (v := ?_) rfl (by kernel_rfl) (by kernel_rfl) (by kernel_rfl) (fun _ _ _ h => h) (Or.inl ⟨by rfl, by intro w hSw; (try dsimp only at hSw); go_simp; with_reducible rfl⟩) (by assumption) ?_
          simp only [Act.put, List.getElem_toArray, List.getElem_cons_succ, List.getElem_cons_zero, List.setIfInBounds_toArray, List.set_cons_succ, List.set_cons_zero]
          refine wpAnyH_take (i := 15) (v := ?_) rfl (by kernel_rfl) (by kernel_rfl) (by kernel_rfl) (fun _ _ _ h => h) (Or.inl ⟨by rfl, by intro w hSw; (try dsimp only at hSw); go_simp; with_reducible rfl⟩) (by assumption) ?_
          simp only [Act.put, List.getElem_toArray, List.getElem_cons_succ, List.getElem_cons_zero, List.setIfInBounds_toArray, List.set_cons_succ, List.set_cons_zero]
          refine wpAnyH_take (i := 16) (v := ?_) rfl (by kernel_rfl) (by kernel_rfl) (by kernel_rfl) (fun _ _ _ h => h) (Or.inl ⟨by rfl, by intro w hSw; (try dsimp only at hSw); go_simp; with_reducible rfl⟩) (by assumption) ?_
          simp only [Act.put, List.getElem_toArray, List.getElem_cons_succ, List.getElem_cons_zero, List.setIfInBounds_toArray, List.set_cons_succ, List.set_cons_zero]
          refine wpAnyH_take (i := 17) (v := ?_) rfl (by kernel_rfl) (by kernel_rfl) (by kernel_rfl) (fun _ _ _ h => h) (Or.inl ⟨by rfl, by intro w hSw; (try dsimp only at hSw); go_simp; with_reducible rfl⟩) (by assumption) ?_
          simp only [Act.put, List.getElem_toArray, List.getElem_cons_succ, List.getElem_cons_zero, List.setIfInBounds_toArray, List.set_cons_succ, List.set_cons_zero]
          refine wpAnyH_take (i := 18) (v := ?_) rfl (by kernel_rfl) (by kernel_rfl) (by kernel_rfl) (fun _ _ _ h => h) (Or.inl ⟨by rfl, by intro w hSw; (try dsimp only at hSw); go_simp; with_reducible rfl⟩) (by assumption) ?_
          simp only [Act.put, List.getElem_toArray, List.getElem_cons_succ, List.getElem_cons_zero, List.setIfInBounds_toArray, List.set_cons_succ, List.set_cons_zero]
          refine wpAnyH_ready (rs := [19]) (by kernel_rfl) (by simp) (AllReadyH.cons (o := { dst := some 184, op := Op.call { callee := Callee.value (Operand.func 20), args := #[Operand.tmp 178, Operand.tmp 179, Operand.tmp 181, Operand.tmp 183], argTypes := #[25, 31, 32, 32] }, type := 4, pos := "law.go:73", after := #[{ on := 13, ground := Ground.data }, { on := 14, ground := Ground.data }, { on := 16, ground := Ground.data }, { on := 18, ground := Ground.data }, { on := 12, ground := Ground.chain }, { on := 12, ground := Ground.guard }], guard := some (12, false) }) rfl (fun K hK => ?_) AllReadyH.nil)
          go_simp
          go_wp2_with (go_at_call 20; refine (HS1.out _ K10.out).mono ?_; rintro e w11 ⟨rfl, hk⟩; have K11 := Lib.hid (K10.out.trans hk); have hS11 := DOCS.out _ K11.out; clear hk)
          refine hK.out _ _ hS11 (fun _ => ?_)
          clear hK K
          refine wpAnyH_take (i := 20) (v := ?_) rfl (by kernel_rfl) (by kernel_rfl) (by kernel_rfl) (fun _ _ _ h => h) (Or.inl ⟨by rfl, by intro w hSw; (try dsimp only at hSw); go_simp; with_reducible rfl⟩) (by assumption) ?_
          simp only [Act.put, List.getElem_toArray, List.getElem_cons_succ, List.getElem_cons_zero, List.setIfInBounds_toArray, List.set_cons_succ, List.set_cons_zero]
          refine wpAnyH_take (i := 21) (v := ?_) rfl (by kernel_rfl) (by kernel_rfl) (by kernel_rfl) (fun _ _ _ h => h) (Or.inl ⟨by rfl, by intro w hSw; (try dsimp only at hSw); go_simp; with_reducible rfl⟩) (by assumption) ?_
          simp only [Act.put, List.getElem_toArray, List.getElem_cons_succ, List.getElem_cons_zero, List.setIfInBounds_toArray, List.set_cons_succ, List.set_cons_zero]
          refine wpAnyH_take (i := 22) (v := ?_) rfl (by kernel_rfl) (by kernel_rfl) (by kernel_rfl) (fun _ _ _ h => h) (Or.inl ⟨by rfl, by intro w hSw; (try dsimp only at hSw); go_simp; with_reducible rfl⟩) (by assumption) ?_
          simp only [Act.put, List.getElem_toArray, List.getElem_cons_succ, List.getElem_cons_zero, List.setIfInBounds_toArray, List.set_cons_succ, List.set_cons_zero]
          refine wpAnyH_take (i := 23) (v := ?_) rfl (by kernel_rfl) (by kernel_rfl) (by kernel_rfl) (fun _ _ _ h => h) (Or.inl ⟨by rfl, by intro w hSw; (try dsimp only at hSw); go_simp; with_reducible rfl⟩) (by assumption) ?_
          simp only [Act.put, List.getElem_toArray, List.getElem_cons_succ, List.getElem_cons_zero, List.setIfInBounds_toArray, List.set_cons_succ, List.set_cons_zero]
          refine wpAnyH_take (i := 24) (v := ?_) rfl (by kernel_rfl) (by kernel_rfl) (by kernel_rfl) (fun _ _ _ h => h) (Or.inl ⟨by rfl, by intro w hSw; (try dsimp only at hSw); go_simp; with_reducible rfl⟩) (by assumption) ?_
          simp only [Act.put, List.getElem_toArray, List.getElem_cons_succ, List.getElem_cons_zero, List.setIfInBounds_toArray, List.set_cons_succ, List.set_cons_zero]
          refine wpAnyH_take (i := 25) (v := ?_) rfl (by kernel_rfl) (by kernel_rfl) (by kernel_rfl) (fun _ _ _ h => h) (Or.inl ⟨by rfl, by intro w hSw; (try dsimp only at hSw); go_simp; with_reducible rfl⟩) (by assumption) ?_
          simp only [Act.put, List.getElem_toArray, List.getElem_cons_succ, List.getElem_cons_zero, List.setIfInBounds_toArray, List.set_cons_succ, List.set_cons_zero]
          refine wpAnyH_take (i := 26) (v := ?_) rfl (by kernel_rfl) (by kernel_rfl) (by kernel_rfl) (fun _ _ _ h => h) (Or.inl ⟨by rfl, by intro w hSw; (try dsimp only at hSw); go_simp; with_reducible rfl⟩) (by assumption) ?_
          simp only [Act.put, List.getElem_toArray, List.getElem_cons_succ, List.getElem_cons_zero, List.setIfInBounds_toArray, List.set_cons_succ, List.set_cons_zero]
          refine wpAnyH_take (i := 27) (v := ?_) rfl (by kernel_rfl) (by kernel_rfl) (by kernel_rfl) (fun _ _ _ h => h) (Or.inl ⟨by rfl, by intro w hSw; (try dsimp only at hSw); go_simp; with_reducible rfl⟩) (by assumption) ?_
          simp only [Act.put, List.getElem_toArray, List.getElem_cons_succ, List.getElem_cons_zero, List.setIfInBounds_toArray, List.set_cons_succ, List.set_cons_zero]
          refine wpAnyH_take (i := 28) (v := ?_) rfl (by kernel_rfl) (by kernel_rfl) (by kernel_rfl) (fun _ _ _ h => h) (Or.inl ⟨by rfl, by intro w hSw; (try dsimp only at hSw); go_simp; with_reducible rfl⟩) (by assumption) ?_
          simp only [Act.put, List.getElem_toArray, List.getElem_cons_succ, List.getElem_cons_zero, List.setIfInBounds_toArray, List.set_cons_succ, List.set_cons_zero]
          refine wpAnyH_take (i := 29) (v := ?_) rfl (by kernel_rfl) (by kernel_rfl) (by kernel_rfl) (fun _ _ _ h => h) (Or.inl ⟨by rfl, by intro w hSw; (try dsimp only at hSw); go_simp; with_reducible rfl⟩) (by assumption) ?_
          simp only [Act.put, List.getElem_toArray, List.getElem_cons_succ, List.getElem_cons_zero, List.setIfInBounds_toArray, List.set_cons_succ, List.set_cons_zero]
          refine wpAnyH_ready (rs := [30]) (by kernel_rfl) (by simp) (AllReadyH.cons (o := { dst := some 195, op := Op.call { callee := Callee.value (Operand.func 20), args := #[Operand.tmp 188, Operand.tmp 189, Operand.tmp 191, Operand.tmp 194], argTypes := #[25, 31, 32, 32] }, type := 4, pos := "law.go:73", after := #[{ on := 23, ground := Ground.data }, { on := 24, ground := Ground.data }, { on := 26, ground := Ground.data }, { on := 29, ground := Ground.data }, { on := 22, ground := Ground.chain }, { on := 22, ground := Ground.guard }], guard := some (22, false) }) rfl (fun K hK => ?_) AllReadyH.nil)
          go_simp
          go_wp2_with (go_at_call 20; refine (HS2.out _ K11.out).mono ?_; rintro e w12 ⟨rfl, hk⟩; have K12 := Lib.hid (K11.out.trans hk); have hS12 := DOCS.out _ K12.out; clear hk)
          refine hK.out _ _ hS12 (fun _ => ?_)
          clear hK K
          refine wpAnyH_take (i := 31) (v := ?_) rfl (by kernel_rfl) (by kernel_rfl) (by kernel_rfl) (fun _ _ _ h => h) (Or.inl ⟨by rfl, by intro w hSw; (try dsimp only at hSw); go_simp; with_reducible rfl⟩) (by assumption) ?_
          simp only [Act.put, List.getElem_toArray, List.getElem_cons_succ, List.getElem_cons_zero, List.setIfInBounds_toArray, List.set_cons_succ, List.set_cons_zero]
          refine wpAnyH_take (i := 32) (v := ?_) rfl (by kernel_rfl) (by kernel_rfl) (by kernel_rfl) (fun _ _ _ h => h) (Or.inl ⟨by rfl, by intro w hSw; (try dsimp only at hSw); go_simp; with_reducible rfl⟩) (by assumption) ?_
          simp only [Act.put, List.getElem_toArray, List.getElem_cons_succ, List.getElem_cons_zero, List.setIfInBounds_toArray, List.set_cons_succ, List.set_cons_zero]
          refine wpAnyH_done (by kernel_rfl) ?_ _
          try simp only [Act.put, List.getElem_toArray, List.getElem_cons_succ, List.getElem_cons_zero, List.setIfInBounds_toArray, List.set_cons_succ, List.set_cons_zero]
          have HPE := Lib.hid (show ∃ (M : Nat) (wv : Value) (aw : Option Addr) (cw Mw : Nat) (ar : Option Addr) (cr Mr : Nat), PairM w w12 g rb R M wv aw cw Mw ar cr Mr win' ram' from ⟨_, _, _, _, _, _, _, _, HP7.out.next K12.out⟩)
          go_wp2
          go_roundw
          case rel => exact ⟨j + 1, win', ram', by omega, by go_num, HPE⟩
          case measure => simp [intOf]; omega
      · obtain rfl : j = K := by omega
        obtain ⟨_, _, _, _, _, _, _, _, hpa⟩ := hp.out
        have KK := Lib.hid hpa.kept
        clear hpa hp HOPS
        go_wp2_with (go_at_call 8; refine (awake9_any _).mono ?_; rintro e w3 ⟨rfl, hk⟩; have HK := Lib.hid hk; clear hk)
        go_ret
        exact ⟨rfl, KK.out.trans HK.out⟩

theorem MemTells_all (w : World) (ri : Int) (r0 : -9223372036854775808 ≤ ri) (r1 : ri ≤ 9223372036854775807) (v : Value) (win : List UInt8) (Mw : Nat) (h : Reads w v win Mw) (hl : win.length ≤ maxLen) (lv : Value) (nl : Nat) (hv : Ops9 w lv nl) :
    Calls Try.prog 3 #[.int .i64 ri, v, lv] w fun e w' => e = .returned (.bool true) ∧ Keeps [] w w' := by
  by_cases hno : 400 < ri ∨ 400 < win.length ∨ ri < 4 ∨ ri % 4 ≠ 0
  · exact MemTells_off w ri r0 r1 v win Mw h hl lv hno
  · obtain ⟨n, rfl⟩ := Int.eq_ofNat_of_zero_le (by omega : 0 ≤ ri)
    exact MemTells_on w n (by omega) (by omega) (by omega) v win Mw h (by omega) lv nl hv
end Go.Proofs.Ytcbdkkpoliameaa
