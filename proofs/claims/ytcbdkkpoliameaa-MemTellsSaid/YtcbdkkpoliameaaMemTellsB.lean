/-
  Memories beside the document's: operations that came in; where both stand; what both have behind an operation.
-/
import Derived.Test.YtcbdkkpoliameaaMemSame
namespace Go.Proofs.Ytcbdkkpoliameaa
open Go.RowKit Go.Deep
set_option linter.unusedVariables false

/-! ### operations that came in -/
def Op9At (w : World) (b off i d A B n x : Nat) (wa : Option Addr) (wc : Nat) (nw : List UInt8) (Mn : Nat) : Prop :=
  d < 256 ∧ A < 4294967296 ∧ B < 4294967296 ∧ n < 4294967296 ∧ x < 4294967296 ∧ Reads w (.slice wa nw.length wc) nw Mn ∧
    w.cell? ⟨b, off + i * 6, none⟩ = some (.int .u8 d) ∧ w.cell? ⟨b, off + i * 6 + 1, none⟩ = some (.int .u32 A) ∧ w.cell? ⟨b, off + i * 6 + 2, none⟩ = some (.int .u32 B) ∧
    w.cell? ⟨b, off + i * 6 + 3, none⟩ = some (.int .u32 n) ∧ w.cell? ⟨b, off + i * 6 + 4, none⟩ = some (.int .u32 x) ∧ w.cell? ⟨b, off + i * 6 + 5, none⟩ = some (.slice wa nw.length wc)

def Ops9 (w : World) (v : Value) (n : Nat) : Prop :=
  (v = .slice none 0 0 ∧ n = 0) ∨ ∃ (a : Addr) (cap : Nat), v = .slice (some a) n cap ∧ n ≤ cap ∧ cap ≤ maxLen ∧ (0 < n → ∃ b off, a = ⟨b, off, none⟩ ∧ ∀ i, i < n → ∃ d A B k x wa wc nw Mn, Op9At w b off i d A B k x wa wc nw Mn)

theorem Op9At.keeps {w w' : World} {b off i d A B n x : Nat} {wa : Option Addr} {wc : Nat} {nw : List UInt8} {Mn : Nat} (h : Op9At w b off i d A B n x wa wc nw Mn) (hk : Keeps [] w w') : Op9At w' b off i d A B n x wa wc nw Mn := by
  obtain ⟨h1, h2, h3, h4, h5, h6, c0, c1, c2, c3, c4, c5⟩ := h
  exact ⟨h1, h2, h3, h4, h5, h6.keeps hk (by simp), hk.cell c0 (by simp), hk.cell c1 (by simp), hk.cell c2 (by simp), hk.cell c3 (by simp), hk.cell c4 (by simp), hk.cell c5 (by simp)⟩

theorem Ops9.shape {w : World} {n : Nat} {v : Value} (h : Ops9 w v n) : ∃ ao cap, v = .slice ao n cap ∧ n ≤ cap ∧ n ≤ maxLen ∧ (0 < n → ∃ b off, ao = some ⟨b, off, none⟩ ∧ ∀ i, i < n → ∃ d A B k x wa wc nw Mn, Op9At w b off i d A B k x wa wc nw Mn) := by
  rcases h with ⟨rfl, rfl⟩ | ⟨a, cap, rfl, h1, h2, h3⟩
  · exact ⟨none, 0, rfl, Nat.le_refl _, by decide, fun h => absurd h (by decide)⟩
  · refine ⟨some a, cap, rfl, h1, by omega, fun h0 => ?_⟩
    obtain ⟨b, off, rfl, h4⟩ := h3 h0
    exact ⟨b, off, rfl, h4⟩

section
variable {H : Type} {enc : TypeId × Value → H} {W : World} {b0 : Nat} {spare : Nat → Bool} {held : Bool}

theorem ops9_read {fuel : Nat} {v : Value} {x : DataW H × List MemPlace} (h : DataW.trod enc Try.prog W b0 spare held fuel 23 [v] = some x) : ∃ n, Ops9 W v n := by
  rcases structs_read Try.underlying23 Try.underlying34 (by kernel_rfl) (by kernel_rfl) h with rfl | ⟨a, len, cap, rfl, hl, hm, hf⟩
  · exact ⟨0, .inl ⟨rfl, rfl⟩⟩
  · refine ⟨len, .inr ⟨a, cap, rfl, hl, hm, fun h0 => ?_⟩⟩
    obtain ⟨b, off, spot⟩ := a
    have hs : spot = none := by
      obtain ⟨u0, y0, n0, c0, t0⟩ := hf 0 h0 0 _ rfl
      cases spot with
      | none => rfl
      | some x =>
        exfalso
        simp only [Addr.add, Nat.zero_mul, if_true] at c0
        unfold World.cell? at c0
        split at c0
        · simp at c0
        · cases c0
    subst hs
    refine ⟨b, off, rfl, fun i hi => ?_⟩
    obtain ⟨u0, y0, n0, c0, t0⟩ := hf i hi 0 _ rfl
    obtain ⟨u1, y1, n1, c1, t1⟩ := hf i hi 1 _ rfl
    obtain ⟨u2, y2, n2, c2, t2⟩ := hf i hi 2 _ rfl
    obtain ⟨u3, y3, n3, c3, t3⟩ := hf i hi 3 _ rfl
    obtain ⟨u4, y4, n4, c4, t4⟩ := hf i hi 4 _ rfl
    obtain ⟨u5, y5, n5, c5, t5⟩ := hf i hi 5 _ rfl
    obtain ⟨d, hd, _, wd⟩ := DataW.trod_int Try.underlying5 t0
    obtain ⟨A, hA, _, wA⟩ := DataW.trod_int Try.underlying32 t1
    obtain ⟨B, hB, _, wB⟩ := DataW.trod_int Try.underlying32 t2
    obtain ⟨n, hn, _, wn⟩ := DataW.trod_int Try.underlying32 t3
    obtain ⟨x, hx, _, wx⟩ := DataW.trod_int Try.underlying32 t4
    simp at hd hA hB hn hx
    subst hd hA hB hn hx
    obtain ⟨l5, M5, r5, ll5, _⟩ := bytes_read t5
    obtain ⟨c, rfl⟩ := byte_of_wf wd
    have bA := bounds_u32 wA
    have bB := bounds_u32 wB
    have bn := bounds_u32 wn
    have bx := bounds_u32 wx
    obtain ⟨A, rfl⟩ := Int.eq_ofNat_of_zero_le bA.1
    obtain ⟨B, rfl⟩ := Int.eq_ofNat_of_zero_le bB.1
    obtain ⟨n, rfl⟩ := Int.eq_ofNat_of_zero_le bn.1
    obtain ⟨x, rfl⟩ := Int.eq_ofNat_of_zero_le bx.1
    obtain ⟨xa, xc, rfl, _⟩ := r5.shape
    rw [Addr.add_off] at c0 c1 c2 c3 c4 c5
    exact ⟨c.toNat, A, B, n, x, xa, xc, l5, M5, c.toNat_lt, by omega, by omega, by omega, by omega, r5, c0, (by rw [Nat.add_assoc]; exact c1), (by rw [Nat.add_assoc]; exact c2), (by rw [Nat.add_assoc]; exact c3), (by rw [Nat.add_assoc]; exact c4), (by rw [Nat.add_assoc]; exact c5)⟩
end

/-! ### where both stand -/
structure PairM (w0 w : World) (g rb R M : Nat) (wv : Value) (aw : Option Addr) (cw Mw : Nat) (ar : Option Addr) (cr Mr : Nat) (win ram : List UInt8) : Prop where
  kept : Keeps [] w0 w
  mem : MemAt w w0.heap.size g rb M wv win ram
  doc : Whole w R 31 [.slice aw win.length cw, .slice ar ram.length cr]
  rw : Reads w (.slice aw win.length cw) win Mw
  rr : Reads w (.slice ar ram.length cr) ram Mr
  R0 : w0.heap.size ≤ R
  Rg : R ≠ g
  Rrb : R ≠ rb
  RM : win ≠ [] → M ≠ R
  MwA : win ≠ [] → Mw ≠ g ∧ Mw ≠ rb ∧ Mw ≠ R ∧ Mw < w.heap.size
  MrA : Mr ≠ g ∧ Mr ≠ rb ∧ Mr ≠ R ∧ Mr < w.heap.size
  wl4 : win.length ≤ 400
  rl4 : ram.length ≤ 400

section
variable {w0 w : World} {g rb R M : Nat} {wv : Value} {aw : Option Addr} {cw Mw : Nat} {ar : Option Addr} {cr Mr : Nat} {win ram : List UInt8}

theorem PairM.next (h : PairM w0 w g rb R M wv aw cw Mw ar cr Mr win ram) {w' : World} (hk : Keeps [] w w') : PairM w0 w' g rb R M wv aw cw Mw ar cr Mr win ram :=
  ⟨h.kept.trans hk, h.mem.next hk, h.doc.keeps hk (by simp), h.rw.keeps hk (by simp), h.rr.keeps hk (by simp), h.R0, h.Rg, h.Rrb, h.RM, fun hw => by have := h.MwA hw; have := hk.size; omega, by have := h.MrA; have := hk.size; omega, h.wl4, h.rl4⟩

theorem PairM.mid (h : PairM w0 w g rb R M wv aw cw Mw ar cr Mr win ram) {w1 : World} (hk : Keeps [rb] w w1) :
    Whole w1 R 31 [.slice aw win.length cw, .slice ar ram.length cr] ∧ Reads w1 (.slice aw win.length cw) win Mw ∧ Reads w1 (.slice ar ram.length cr) ram Mr :=
  ⟨h.doc.keeps hk (by simp [h.Rrb]), h.rw.ifKept hk (fun hw => by simp [(h.MwA hw).2.1]), h.rr.ifKept hk (fun _ => by simp [h.MrA.2.1])⟩

theorem PairM.done (h : PairM w0 w g rb R M wv aw cw Mw ar cr Mr win ram) {w1 w2 : World} {r' : List UInt8} {ar' : Option Addr} {cr' Mr' : Nat} (hk1 : Keeps [rb] w w1) (hm1 : MemAt w1 w0.heap.size g rb M wv win r') (hl : r'.length = ram.length)
    (hk2 : Keeps [] w1 w2) (hr : Reads w2 (.slice ar' ram.length cr') r' Mr') (hM : Mr' = Mr ∨ w1.heap.size ≤ Mr') :
    PairM w0 ((w2.setCell ⟨R, 0, none⟩ (.slice aw win.length cw)).setCell ⟨R, 1, none⟩ (.slice ar' ram.length cr')) g rb R M wv aw cw Mw ar' cr' Mr' win r' := by
  have hks := sets2 w2 R (.slice aw win.length cw) (.slice ar' ram.length cr')
  obtain ⟨h1, h2, h3⟩ := h.mid hk1
  have hg := h.mem.whole.lt
  have hrb := h.mem.row.lt
  have hRl := h.doc.lt
  have s1 := hk1.size
  have s2 := hk2.size
  have s3 := hks.size
  have hne : r' ≠ [] := by intro e; rw [e] at hl; have := h.mem.ram4; simp at hl; omega
  have hMr' : Mr' < w2.heap.size := hr.lt hne
  have hMrA := h.MrA
  refine ⟨?_, ?_, ?_, ?_, ?_, h.R0, h.Rg, h.Rrb, h.RM, fun hw => by have := h.MwA hw; omega, ?_, h.wl4, by rw [hl]; exact h.rl4⟩
  · exact ((h.kept.then hk1 (fun x hx => .inr (by simp at hx; subst hx; exact h.mem.rbH))).trans hk2).then hks (fun x hx => .inr (by simp at hx; subst hx; exact h.R0))
  · exact (hm1.next hk2).keeps hks (by simp [Ne.symm h.Rg]) (by simp [Ne.symm h.Rrb]) (fun hw => by simp [h.RM hw])
  · rw [hl]
    have := ((h1.keeps hk2 (by simp)).set 0 (.slice aw win.length cw)).set 1 (.slice ar' ram.length cr')
    exact this
  · exact (h2.keeps hk2 (by simp)).ifKept hks (fun hw => by simp [(h.MwA hw).2.2.1])
  · rw [hl]
    exact hr.ifKept hks (fun _ => by simp; rcases hM with rfl | hM; exact hMrA.2.2.1; omega)
  · rcases hM with rfl | hM
    · omega
    · omega

set_option maxRecDepth 100000 in
set_option maxHeartbeats 1000000 in
/-- As Show_at, with where the new window lies. -/
theorem Show_new {w : World} {H g rb M : Nat} {wv : Value} {win ram : List UInt8} (h : MemAt w H g rb M wv win ram) (hH : H ≤ w.heap.size) (v : Value) (l : List UInt8) (Ml : Nat) (hl : Reads w v l Ml) (hn : l.length ≤ 65536) :
    Calls Try.prog 19 #[.pointer (some ⟨g, 0, none⟩), v] w fun e w' => ∃ M' wv', e = .returned (.int .i64 0) ∧ MemAt w' H g rb M' wv' l ram ∧ Keeps [g] w w' ∧ (l ≠ [] → w.heap.size ≤ M') := by
  have c0 := h.cell 0 _ rfl
  have HM := Lib.hid h
  have HC := Lib.hid (windowOf_any w v l Ml hl hn)
  obtain ⟨a0, cp0, rfl, _⟩ := hl.shape
  clear h hl
  have HLN := Lib.hid hn
  generalize hln : l.length = n at *
  go_enter Try.func19, Try.ntmps19
  go_wp2_with (first | (go_at_call 25; refine (mmMade_at _ _ c0).mono ?_; rintro e w' ⟨rfl, rfl⟩) | (go_at_call 24; refine HC.out.mono ?_; rintro e w2 ⟨a3, c3, M', rfl, hr, hM, hk⟩; have HR := Lib.hid hr; have HMM := Lib.hid hM; have HK := Lib.hid hk; have hm2 := HM.out.next hk; have HM2 := Lib.hid hm2; have q1 := hm2.cell 1 _ rfl; have q2 := hm2.cell 2 _ rfl; have f1 := hm2.whole.frozen 1; have f2 := hm2.whole.frozen 2; clear hm2 hM hk hr))
  go_ret
  have hks : Keeps [g] w2 ((w2.setCell ⟨g, 1, none⟩ (.int .u32 4096)).setCell ⟨g, 2, none⟩ (.slice a3 n c3)) := (Keeps.setCell _ (by simp) _).trans (Keeps.setCell _ (by simp) _)
  have hwh := ((HM2.out.whole.set 1 (.int .u32 4096)).set 2 (.slice a3 n c3))
  have hg := HM.out.whole.lt
  have hrb := HM.out.row.lt
  refine ⟨M', .slice a3 n c3, rfl, ⟨hwh, HM2.out.row.keeps hks (by simp [Ne.symm HM.out.ne]), HR.out.ifKept hks (fun hl => by have := (HMM.out hl).1; simp; omega), fun hl => ?_, HM.out.gH, HM.out.rbH, HM.out.ne, HM.out.ram4, hln ▸ HLN.out⟩, (HK.out.mono (by simp)).trans hks, fun hl => (HMM.out hl).1⟩
  have := HMM.out hl
  have := hks.size
  omega

/-- Another window is shown. -/
theorem PairM.shown (h : PairM w0 w g rb R M wv aw cw Mw ar cr Mr win ram) {w1 w2 : World} {nw : List UInt8} {M' : Nat} {wv' : Value} {a' : Option Addr} {c' Mn : Nat} {E : Nat} (hk1 : Keeps [g] w w1) (hm1 : MemAt w1 w0.heap.size g rb M' wv' nw ram) (hM' : nw ≠ [] → w.heap.size ≤ M')
    (hk2 : Keeps [E] w1 w2) (hE : w1.heap.size ≤ E) (hr : Reads w2 (.slice a' nw.length c') nw Mn) (hMn : nw ≠ [] → w1.heap.size ≤ Mn) (hl : nw.length ≤ 400) :
    PairM w0 (w2.setCell ⟨R, 0, none⟩ (.slice a' nw.length c')) g rb R M' wv' a' c' Mn ar cr Mr nw ram := by
  have hks : Keeps [R] w2 (w2.setCell ⟨R, 0, none⟩ (.slice a' nw.length c')) := Keeps.setCell _ (by simp) _
  have hk2' : Keeps [] w1 w2 := hk2.news (fun x hx => .inr (by simp at hx; omega))
  have hg := h.mem.whole.lt
  have hrb := h.mem.row.lt
  have hRl := h.doc.lt
  have s1 := hk1.size
  have s2 := hk2.size
  have s3 := hks.size
  have hMrA := h.MrA
  refine ⟨?_, ?_, ?_, ?_, ?_, h.R0, h.Rg, h.Rrb, fun hw => by have := hM' hw; omega, fun hw => ?_, ⟨hMrA.1, hMrA.2.1, hMrA.2.2.1, by omega⟩, hl, h.rl4⟩
  · exact ((h.kept.then hk1 (fun x hx => .inr (by simp at hx; subst hx; exact h.mem.gH))).trans hk2').then hks (fun x hx => .inr (by simp at hx; subst hx; exact h.R0))
  · exact (hm1.next hk2').keeps hks (by simp [Ne.symm h.Rg]) (by simp [Ne.symm h.Rrb]) (fun hw => by have := hM' hw; simp; omega)
  · have := ((h.doc.keeps hk1 (by simp [h.Rg])).keeps hk2' (by simp)).set 0 (.slice a' nw.length c')
    exact this
  · exact hr.ifKept hks (fun hw => by have := hMn hw; simp; omega)
  · exact ((h.rr.ifKept hk1 (fun _ => by simp [hMrA.1])).keeps hk2' (by simp)).ifKept hks (fun _ => by simp [hMrA.2.2.1])
  · have := hMn hw
    have := hr.lt hw
    omega
end

/-- The document's memory, made: in memory that is new since w1. -/
def NewDoc (w1 wc : World) (R : Nat) (win zs : List UInt8) : Prop :=
  Keeps [] w1 wc ∧ w1.heap.size ≤ R ∧ ∃ (aw : Option Addr) (cw Mw Mr : Nat), Whole wc R 31 [.slice aw win.length cw, .slice (some ⟨Mr, 0, none⟩) zs.length zs.length] ∧ Reads wc (.slice aw win.length cw) win Mw ∧ Whole wc Mr 5 (zs.map bv) ∧
    w1.heap.size ≤ Mr ∧ Mr ≠ R ∧ (win ≠ [] → w1.heap.size ≤ Mw ∧ Mw ≠ R ∧ Mw < wc.heap.size)

theorem step_store_mid9 {P : Program} {ops : Array Oper} {o : Oper} {a : Act} {w : World} {K : Act → World → Prop} {Q : Exit → Act → World → Prop} {E : Prop} (hgd : o.guard = none) (ty : TypeId) (x y : Operand) (ho : o.op = .store ty x y)
    (b off : Nat) (cells : Array Value) (hx : a.eval x = .pointer (some ⟨b, off, none⟩)) (hy : a.eval y = .agg cells) (ht : w.there b off cells.size) (hi : (P.info? ty).map (·.size) = some cells.size) (h1 : cells.all (·.oneCell') = true)
    (h : K (a.put o.dst undef) (w.setCells b off cells.toList)) : if Region.wanted o (yielded ops a.tmps) = true then Oper.wp P o a w K Q else E := by
  rw [if_pos (by simp [Region.wanted, hgd])]
  exact wp_store_mid ty x y ho b off cells hx hy ht hi h1 h

theorem step_store_all9 {P : Program} {ops : Array Oper} {o : Oper} {a : Act} {w : World} {K : Act → World → Prop} {Q : Exit → Act → World → Prop} {E : Prop} (hgd : o.guard = none) (ty : TypeId) (x y : Operand) (ho : o.op = .store ty x y)
    (b : Nat) (old vs : List Value) (hx : a.eval x = .pointer (some ⟨b, 0, none⟩)) (hy : a.eval y = .agg vs.toArray) {T : TypeId} (hw : Whole w b T old) (hl : vs.length = old.length) (hi : (P.info? ty).map (·.size) = some vs.toArray.size) (h1 : vs.toArray.all (·.oneCell') = true)
    (h : ∀ w', Whole w' b T vs → Keeps [b] w w' → K (a.put o.dst undef) w') : if Region.wanted o (yielded ops a.tmps) = true then Oper.wp P o a w K Q else E := by
  refine step_store_mid9 hgd ty x y ho b 0 vs.toArray hx hy (hw.there 0 _ (by simp [hl])) hi h1 (h _ ?_ (Keeps.setCells (S := [b]) w (List.mem_singleton.2 rfl) 0 _))
  have := Whole.setCells (pre := []) (post := []) vs (by simpa using hw) 0 rfl hl
  simpa using this

theorem sz9 : (Try.prog.info? 31).map (·.size) = some 2 := by kernel_rfl
theorem elemOps9 : Try.prog.elem 23 = 34 := by kernel_rfl
theorem infoOp9 : (Try.prog.info? 34).map (fun i => i.size) = some 6 := by kernel_rfl
theorem sizeOp9 (w : World) : (sizeOf 34).run Try.prog w = .ok 6 w := by kernel_rfl
theorem run_cutO9 (w : World) (a : Option Addr) (len cap hi : Nat) (h : hi ≤ cap) : (Instr.sliceAt 23 (.slice a len cap) none (some (.int .i64 hi)) none).run Try.prog w = .ok (.slice a hi cap) w := by
  have hu : Try.prog.underlying 23 = some (.slice (Try.prog.elem 23)) := by rw [elemOps9]; exact Try.underlying23
  rw [run_sliceAt_slice _ _ _ _ _ _ hu, run_slice_h _ _ _ _ _ hu _ _ (by omega) (by omega), elemOps9, sizeOp9]
  simp [sliced, Addr.add]
end Go.Proofs.Ytcbdkkpoliameaa
