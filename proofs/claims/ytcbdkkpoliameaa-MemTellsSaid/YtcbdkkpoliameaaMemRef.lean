/-
  The document's memory: Place, Get, Cell, Four, Load.
-/
import Derived.Test.YtcbdkkpoliameaaMemWindowA
namespace Go.Proofs.Ytcbdkkpoliameaa
open Go.RowKit Go.Deep
set_option linter.unusedVariables false

/-- The document's memory, as a value. -/
abbrev docMV (aw : Option Addr) (wl cw : Nat) (ar : Option Addr) (rl cr : Nat) : Value := .agg #[.slice aw wl cw, .slice ar rl cr]

section
variable {win ram : List UInt8}

set_option maxRecDepth 100000 in
set_option maxHeartbeats 2000000 in
theorem Place_any (w : World) (aw : Option Addr) (cw : Nat) (ar : Option Addr) (cr : Nat) (wl rl : Nat) (hwl : wl = win.length) (hrl : rl = ram.length) (hw : win.length ≤ 65536) (hr : ram.length ≤ 65536) (A n : Nat) (a1 : A < 4294967296) (n1 : n < 4294967296) :
    Calls Try.prog 30 #[.agg #[.slice aw wl cw, .slice ar rl cr], .int .u64 A, .int .u64 n] w fun e w' => ∃ (k i : Int), e = .returned (.tuple #[.int .i64 k, .int .i64 i]) ∧ Keeps [] w w' ∧
      ((k = 1 ∧ inAt 4096 win A n ∧ i = ((A - 4096 : Nat) : Int)) ∨ (k = 2 ∧ inAt 1048576 ram A n ∧ i = ((A - 1048576 : Nat) : Int)) ∨ (k = 0 ∧ i = 0 ∧ tT win ram A n = -9)) := by
  have HTT := Lib.hid (show (¬ inAt 4096 win A n ∧ ¬ inAt 1048576 ram A n) → tT win ram A n = -9 from fun h => by unfold tT; rw [if_neg (by rintro (q | q); exact h.1 q; exact h.2 q)])
  unfold inAt at *
  rw [← hwl] at hw HTT ⊢
  rw [← hrl] at hr HTT ⊢
  clear hwl hrl
  generalize tT win ram A n = tt at *
  obtain ⟨Ai, hAi⟩ : ∃ Ai : Int, Ai = A := ⟨_, rfl⟩
  obtain ⟨ni, hni⟩ : ∃ ni : Int, ni = n := ⟨_, rfl⟩
  rw [← hAi, ← hni]
  have a0 : 0 ≤ Ai := by omega
  have a2 : Ai < 4294967296 := by omega
  have n0 : 0 ≤ ni := by omega
  have n2 : ni < 4294967296 := by omega
  have HA := Lib.hid hAi
  have HN := Lib.hid hni
  clear hAi hni
  by_cases h1 : 4096 ≤ Ai ∧ Ai + ni ≤ 4096 + wl
  · obtain ⟨h1, h2⟩ := h1
    obtain ⟨k, hk⟩ : ∃ k : Int, Ai - 4096 = k := ⟨_, rfl⟩
    have hk0 : 0 ≤ k ∧ k ≤ 65536 := by omega
    obtain ⟨hk0, hk1⟩ := hk0
    have HK := Lib.hid (show k = ((A - 4096 : Nat) : Int) ∧ 4096 ≤ A ∧ A + n ≤ 4096 + wl from by have := HA.out; have := HN.out; omega)
    clear a1 n1
    generalize (A - 4096 : Nat) = kk at *
    generalize (A - 1048576 : Nat) = kk2 at *
    go_enter Try.func30, Try.ntmps30
    go_wp2
    go_ret2
    exact ⟨1, k, rfl, Keeps.alloc [] w _, .inl ⟨rfl, HK.out.2, HK.out.1⟩⟩
  · by_cases h2 : 1048576 ≤ Ai ∧ Ai + ni ≤ 1048576 + rl
    · obtain ⟨h2, h3⟩ := h2
      obtain ⟨k, hk⟩ : ∃ k : Int, Ai - 1048576 = k := ⟨_, rfl⟩
      have hk0 : 0 ≤ k ∧ k ≤ 65536 := by omega
      obtain ⟨hk0, hk1⟩ := hk0
      have HK := Lib.hid (show k = ((A - 1048576 : Nat) : Int) ∧ 1048576 ≤ A ∧ A + n ≤ 1048576 + rl from by have := HA.out; have := HN.out; omega)
      have h4 : 4096 ≤ Ai := by omega
      have h5 : ¬ Ai + ni ≤ 4096 + wl := by omega
      clear a1 n1 h1
      generalize (A - 4096 : Nat) = kk at *
      generalize (A - 1048576 : Nat) = kk2 at *
      go_enter Try.func30, Try.ntmps30
      go_wp2
      go_ret2
      exact ⟨2, k, rfl, Keeps.alloc [] w _, .inr (.inl ⟨rfl, HK.out.2, HK.out.1⟩)⟩
    · have HK := Lib.hid (HTT.out (by have := HA.out; have := HN.out; omega))
      clear HTT
      clear a1 n1
      generalize (A - 4096 : Nat) = kk at *
      generalize (A - 1048576 : Nat) = kk2 at *
      by_cases c1 : 4096 ≤ Ai
      · have c2 : ¬ Ai + ni ≤ 4096 + wl := by omega
        by_cases c3 : 1048576 ≤ Ai
        · have c4 : ¬ Ai + ni ≤ 1048576 + rl := by omega
          clear h1 h2
          go_enter Try.func30, Try.ntmps30
          go_wp2
          go_ret2
          exact ⟨0, 0, rfl, Keeps.alloc [] w _, .inr (.inr ⟨rfl, rfl, HK.out⟩)⟩
        · clear h1 h2
          go_enter Try.func30, Try.ntmps30
          go_wp2
          go_ret2
          exact ⟨0, 0, rfl, Keeps.alloc [] w _, .inr (.inr ⟨rfl, rfl, HK.out⟩)⟩
      · have c3 : ¬ 1048576 ≤ Ai := by omega
        clear h1 h2
        go_enter Try.func30, Try.ntmps30
        go_wp2
        go_ret2
        exact ⟨0, 0, rfl, Keeps.alloc [] w _, .inr (.inr ⟨rfl, rfl, HK.out⟩)⟩

theorem take_snoc (l : List UInt8) (i : Nat) (c : UInt8) (h : l[i]? = some c) : l.take i ++ [c] = l.take (i + 1) := by
  obtain ⟨hi, he⟩ := List.getElem?_eq_some_iff.1 h
  rw [List.take_succ_eq_append_getElem hi, he]

/-- Bytes gathered from a place on: k of them. -/
theorem gather_snoc (l : List UInt8) (o k : Nat) (c : UInt8) (h : l[o + k]? = some c) : (l.drop o).take k ++ [c] = (l.drop o).take (k + 1) :=
  take_snoc _ _ _ (by rw [List.getElem?_drop]; exact h)

theorem ownsRow_low {w : World} {base base' : Nat} {T : TypeId} {size n : Nat} {v : Value} {xs : List Value} (h : w.ownsRow base T size v n xs) (hb : base' ≤ base) : w.ownsRow base' T size v n xs := by
  obtain ⟨hl, h2⟩ := h
  refine ⟨hl, ?_⟩
  rcases h2 with h2 | ⟨g, cap, cur, rfl, hb', hg, hr⟩
  · exact .inl h2
  · exact .inr ⟨g, cap, cur, rfl, by omega, hg, hr⟩

set_option maxRecDepth 100000 in
set_option maxHeartbeats 2000000 in
theorem Get_any (w : World) (aw : Option Addr) (cw Mw : Nat) (ar : Option Addr) (cr Mr : Nat) (wl rl : Nat) (hwl : wl = win.length) (hrl : rl = ram.length) (hw : win.length ≤ 65536) (hr : ram.length ≤ 65536) (hwR : Reads w (.slice aw wl cw) win Mw) (hrR : Reads w (.slice ar rl cr) ram Mr)
    (A n : Nat) (a1 : A < 4294967296) (n1 : n < 4294967296) :
    Calls Try.prog 32 #[.agg #[.slice aw wl cw, .slice ar rl cr], .int .u64 A, .int .u64 n] w fun e w' => ∃ u, e = .returned (.tuple #[u, .int .i32 (tT win ram A n)]) ∧ w'.ownsRow w.heap.size 5 1 u (gL win ram A n).length ((gL win ram A n).map bv) ∧ Keeps [] w w' := by
  have HPL := Lib.hid (fun (U : World) => Place_any (win := win) (ram := ram) U aw cw ar cr wl rl hwl hrl hw hr A n a1 n1)
  have HB := Lib.hid (And.intro hw hr)
  have HWA := Lib.hid (fun (hne : win ≠ []) => hwR.at hne)
  have HRA := Lib.hid (fun (hne : ram ≠ []) => hrR.at hne)
  have HWL := Lib.hid hwl
  have HRL := Lib.hid hrl
  clear hwR hrR hwl hrl hw hr
  have hnn : (n : Int) < 4294967296 := by omega
  go_enter Try.func32, Try.ntmps32
  go_upto_region 2 with (first | (go_at_call 30; refine (HPL.out _).mono ?_; rintro e w2 ⟨k, i, rfl, hk, hcase⟩; have HK := Lib.hid ((Keeps.alloc [] w _).trans hk); have HCASE := Lib.hid hcase; have HKK := Lib.hid hk; clear hk hcase))
  rcases HCASE.out with ⟨rfl, hin, rfl⟩ | ⟨rfl, hin, rfl⟩ | ⟨rfl, rfl, ht⟩
  · clear HCASE HPL
    have hin' : 4096 ≤ A := by unfold inAt at hin; omega
    obtain ⟨o, ho⟩ : ∃ o, A - 4096 = o := ⟨_, rfl⟩
    rw [ho]
    have hg : gL win ram A n = (win.drop o).take n := by unfold gL; rw [if_pos hin, ho]
    have HGL := Lib.hid hg
    have hlen : o + n ≤ win.length := by unfold inAt at hin; omega
    have hgl : (gL win ram A n).length = n := by rw [hg]; simp; omega
    have ht : tT win ram A n = 0 := by unfold tT; rw [if_pos (.inl hin)]
    have HT := Lib.hid ht
    have HGLL := Lib.hid hgl
    have HBX := Lib.hid ((Whole.new w 31 [.slice aw wl cw, .slice ar rl cr]).keeps HKK.out (by simp))
    have HLEN := Lib.hid (show o + n ≤ win.length ∧ win.length ≤ 65536 from ⟨hlen, by have := HB.out; omega⟩)
    have hob : o + n ≤ 65536 := by have := HB.out; omega
    have HCELL := Lib.hid (show ∀ t, t < o + n → ∃ (off : Nat) (c : UInt8), aw = some ⟨Mw, off, none⟩ ∧ win[t]? = some c ∧ w.cell? ⟨Mw, off + t, none⟩ = some (bv c) from fun t ht => by
      obtain ⟨off, cp, e, _, hc⟩ := HWA.out (by intro e; rw [e] at hlen; simp at hlen; omega)
      injection e with e _ _
      obtain ⟨c, hcc⟩ : ∃ c, win[t]? = some c := ⟨_, List.getElem?_eq_getElem (by omega)⟩
      exact ⟨off, c, e, hcc, hc t c hcc⟩)
    obtain ⟨E, hE⟩ : ∃ E : Int, (o : Int) + (n : Int) = E := ⟨_, rfl⟩
    have HE := Lib.hid hE
    have E1 : E ≤ 65536 := by omega
    have E0 : 0 ≤ E := by omega
    have HSZ := Lib.hid (show w.heap.size < w2.heap.size from HBX.out.lt)
    clear hg hgl ht hin hlen hob ho hin'
    go_wp2_with fail
    go_loopw [10, 11] (fun v10 v11 wr => ∃ (c t : Nat) (ao : Option Addr) (cp : Nat), Hid (t = o + c ∧ c ≤ n) ∧ v10 = .slice ao c cp ∧ v11 = .int .i64 t ∧ (t : Int) ≤ E ∧ Hid (wr.ownsRow (w.heap.size + 1) 5 1 (.slice ao c cp) c (((win.drop o).take c).map bv)) ∧ Hid (Keeps [] w wr) ∧ Hid (Whole wr w.heap.size 31 [.slice aw wl cw, .slice ar rl cr])) (fun _ v11 _ => (E - intOf v11).toNat)
    case atStart => exact ⟨0, o, none, 0, Lib.hid ⟨by omega, by omega⟩, rfl, rfl, by omega, Lib.hid ⟨by simp, .inl ⟨rfl, rfl⟩⟩, HK, HBX⟩
    case round =>
      obtain ⟨c, t, ao, cp, htc, rfl, rfl, htE, hown, hkw, hbx⟩ := hrel
      have e0 := hbx.out.cell 0
      have e1 := hbx.out.cell 1
      simp only [List.getElem?_cons_zero, List.getElem?_cons_succ] at e0 e1
      by_cases hlt : (t : Int) < E
      · obtain ⟨off, ch, rfl, hch, hcell⟩ := HCELL.out t (by have := HE.out; omega)
        obtain ⟨y, hy⟩ : ∃ y : Int, y = ch.toNat := ⟨_, rfl⟩
        have q0 : wr.cell? ⟨Mw, off + t, none⟩ = some (.int .u8 y) := by rw [hy]; exact hkw.out.cell hcell (by simp)
        have HY := Lib.hid hy
        have HCH := Lib.hid hch
        have hts : t < wl := by have := HLEN.out; have := HE.out; have := HWL.out; omega
        have hcl : c ≤ 65536 := by have := htc.out; have := HLEN.out; omega
        have hlc : (((win.drop o).take c)).length = c := by have := htc.out; have := HLEN.out; simp; omega
        have HOWN := Lib.hid (show ∀ V, Keeps [] wr V → V.ownsRow (w.heap.size + 1) 5 1 (.slice ao c cp) (win.drop o |>.take c).length (((win.drop o).take c).map bv) from fun V hV => by rw [hlc]; exact World.ownsRow.keeps hown.out hV (by simp))
        have HLC := Lib.hid hlc
        have HL1 := Lib.hid (show ((win.drop o).take (c + 1)).length = c + 1 from by have := htc.out; have := HLEN.out; have := HE.out; simp; omega)
        clear hcell hch hy hlc
        go_wp2_with (first | (at_builtin; refine wpList_append_reads rfl _ _ rfl (w.heap.size + 1) _ (win.drop o |>.take c) rfl (HOWN.out _ (Keeps.alloc [] _ _)) _ [ch] wr.heap.size rfl (Reads.lit wr [ch] _ _ 1 (0, 0) (by rw [HY.out]; rfl) rfl) (by rw [HLC.out]; simp; omega) (by have := hkw.out.size; have := HSZ.out; have := hbx.out.lt; simp; omega) ?_; intro v3 w3 ho3 hk3; rw [gather_snoc _ _ _ _ (by have := HCH.out; rwa [htc.out.1] at this), HL1.out] at ho3; have HO3 := Lib.hid ho3; have HK3 := Lib.hid ((Keeps.alloc (Value.slice ao c cp).ownBlock.toList wr _).trans hk3); obtain ⟨a3, c3, rfl⟩ := owns_shape2 ho3; clear ho3 hk3))
        go_roundw
        case rel =>
          refine ⟨c + 1, t + 1, a3, c3, Lib.hid (by have := htc.out; have := HE.out; omega), ?_, by go_num, by omega, ?_, Lib.hid (hkw.out.then HK3.out (fun z hz => .inr (by have := (hown.out.lt z (by simpa using hz)).1; omega))), Lib.hid (hbx.out.keeps HK3.out (fun hz => by have := (hown.out.lt _ (by simpa using hz)).1; omega))⟩
          · rfl
          · exact Lib.hid HO3.out
        case measure => simp [intOf]; omega
      · have hte : c = n := by have := htc.out; have := HE.out; omega
        have HOF := Lib.hid (hte ▸ hown.out)
        go_wp2
        go_ret2
        exact ⟨.slice ao n cp, by rw [HT.out]; rfl, by rw [HGLL.out, HGL.out]; exact ownsRow_low HOF.out (by omega), hkw.out⟩
  · clear HCASE HPL
    have hin' : 1048576 ≤ A := by unfold inAt at hin; omega
    obtain ⟨o, ho⟩ : ∃ o, A - 1048576 = o := ⟨_, rfl⟩
    rw [ho]
    have hg : gL win ram A n = (ram.drop o).take n := by unfold gL; rw [if_neg (not_both HB.out.1 hin), if_pos hin, ho]
    have HGL := Lib.hid hg
    have hlen : o + n ≤ ram.length := by unfold inAt at hin; omega
    have hgl : (gL win ram A n).length = n := by rw [hg]; simp; omega
    have ht : tT win ram A n = 0 := by unfold tT; rw [if_pos (.inr hin)]
    have HT := Lib.hid ht
    have HGLL := Lib.hid hgl
    have HBX := Lib.hid ((Whole.new w 31 [.slice aw wl cw, .slice ar rl cr]).keeps HKK.out (by simp))
    have HLEN := Lib.hid (show o + n ≤ ram.length ∧ ram.length ≤ 65536 from ⟨hlen, by have := HB.out; omega⟩)
    have hob : o + n ≤ 65536 := by have := HB.out; omega
    have HCELL := Lib.hid (show ∀ t, t < o + n → ∃ (off : Nat) (c : UInt8), ar = some ⟨Mr, off, none⟩ ∧ ram[t]? = some c ∧ w.cell? ⟨Mr, off + t, none⟩ = some (bv c) from fun t ht => by
      obtain ⟨off, cp, e, _, hc⟩ := HRA.out (by intro e; rw [e] at hlen; simp at hlen; omega)
      injection e with e _ _
      obtain ⟨c, hcc⟩ : ∃ c, ram[t]? = some c := ⟨_, List.getElem?_eq_getElem (by omega)⟩
      exact ⟨off, c, e, hcc, hc t c hcc⟩)
    obtain ⟨E, hE⟩ : ∃ E : Int, (o : Int) + (n : Int) = E := ⟨_, rfl⟩
    have HE := Lib.hid hE
    have E1 : E ≤ 65536 := by omega
    have E0 : 0 ≤ E := by omega
    have HSZ := Lib.hid (show w.heap.size < w2.heap.size from HBX.out.lt)
    clear hg hgl ht hin hlen hob ho hin'
    go_wp2_with fail
    go_loopw [10, 11] (fun v10 v11 wr => ∃ (c t : Nat) (ao : Option Addr) (cp : Nat), Hid (t = o + c ∧ c ≤ n) ∧ v10 = .slice ao c cp ∧ v11 = .int .i64 t ∧ (t : Int) ≤ E ∧ Hid (wr.ownsRow (w.heap.size + 1) 5 1 (.slice ao c cp) c (((ram.drop o).take c).map bv)) ∧ Hid (Keeps [] w wr) ∧ Hid (Whole wr w.heap.size 31 [.slice aw wl cw, .slice ar rl cr])) (fun _ v11 _ => (E - intOf v11).toNat)
    case atStart => exact ⟨0, o, none, 0, Lib.hid ⟨by omega, by omega⟩, rfl, rfl, by omega, Lib.hid ⟨by simp, .inl ⟨rfl, rfl⟩⟩, HK, HBX⟩
    case round =>
      obtain ⟨c, t, ao, cp, htc, rfl, rfl, htE, hown, hkw, hbx⟩ := hrel
      have e0 := hbx.out.cell 0
      have e1 := hbx.out.cell 1
      simp only [List.getElem?_cons_zero, List.getElem?_cons_succ] at e0 e1
      by_cases hlt : (t : Int) < E
      · obtain ⟨off, ch, rfl, hch, hcell⟩ := HCELL.out t (by have := HE.out; omega)
        obtain ⟨y, hy⟩ : ∃ y : Int, y = ch.toNat := ⟨_, rfl⟩
        have q0 : wr.cell? ⟨Mr, off + t, none⟩ = some (.int .u8 y) := by rw [hy]; exact hkw.out.cell hcell (by simp)
        have HY := Lib.hid hy
        have HCH := Lib.hid hch
        have hts : t < rl := by have := HLEN.out; have := HE.out; have := HRL.out; omega
        have hcl : c ≤ 65536 := by have := htc.out; have := HLEN.out; omega
        have hlc : (((ram.drop o).take c)).length = c := by have := htc.out; have := HLEN.out; simp; omega
        have HOWN := Lib.hid (show ∀ V, Keeps [] wr V → V.ownsRow (w.heap.size + 1) 5 1 (.slice ao c cp) (ram.drop o |>.take c).length (((ram.drop o).take c).map bv) from fun V hV => by rw [hlc]; exact World.ownsRow.keeps hown.out hV (by simp))
        have HLC := Lib.hid hlc
        have HL1 := Lib.hid (show ((ram.drop o).take (c + 1)).length = c + 1 from by have := htc.out; have := HLEN.out; have := HE.out; simp; omega)
        clear hcell hch hy hlc
        go_wp2_with (first | (at_builtin; refine wpList_append_reads rfl _ _ rfl (w.heap.size + 1) _ (ram.drop o |>.take c) rfl (HOWN.out _ (Keeps.alloc [] _ _)) _ [ch] wr.heap.size rfl (Reads.lit wr [ch] _ _ 1 (0, 0) (by rw [HY.out]; rfl) rfl) (by rw [HLC.out]; simp; omega) (by have := hkw.out.size; have := HSZ.out; have := hbx.out.lt; simp; omega) ?_; intro v3 w3 ho3 hk3; rw [gather_snoc _ _ _ _ (by have := HCH.out; rwa [htc.out.1] at this), HL1.out] at ho3; have HO3 := Lib.hid ho3; have HK3 := Lib.hid ((Keeps.alloc (Value.slice ao c cp).ownBlock.toList wr _).trans hk3); obtain ⟨a3, c3, rfl⟩ := owns_shape2 ho3; clear ho3 hk3))
        go_roundw
        case rel =>
          refine ⟨c + 1, t + 1, a3, c3, Lib.hid (by have := htc.out; have := HE.out; omega), ?_, by go_num, by omega, ?_, Lib.hid (hkw.out.then HK3.out (fun z hz => .inr (by have := (hown.out.lt z (by simpa using hz)).1; omega))), Lib.hid (hbx.out.keeps HK3.out (fun hz => by have := (hown.out.lt _ (by simpa using hz)).1; omega))⟩
          · rfl
          · exact Lib.hid HO3.out
        case measure => simp [intOf]; omega
      · have hte : c = n := by have := htc.out; have := HE.out; omega
        have HOF := Lib.hid (hte ▸ hown.out)
        go_wp2
        go_ret2
        exact ⟨.slice ao n cp, by rw [HT.out]; rfl, by rw [HGLL.out, HGL.out]; exact ownsRow_low HOF.out (by omega), hkw.out⟩
  · clear HCASE HPL
    have hg : gL win ram A n = [] := gL_none (by rw [ht]; decide)
    have HT := Lib.hid ht
    have HG := Lib.hid hg
    clear hg ht
    go_wp2
    go_ret2
    exact ⟨.slice none 0 0, by rw [HT.out]; rfl, by rw [HG.out]; exact ⟨by simp, .inl ⟨rfl, rfl⟩⟩, HK.out⟩

theorem owns_some {w : World} {base n : Nat} {T : TypeId} {v : Value} {xs : List Value} (h : w.ownsRow base T 1 v n xs) (hn : 0 < n) : ∃ b c, v = .slice (some ⟨b, 0, none⟩) n c ∧ base ≤ b ∧ Row w b T xs c :=
  Row.ofOwns h (by
    rintro rfl
    rcases h.2 with ⟨_, e⟩ | ⟨g, cc, cur, e, _⟩
    · omega
    · simp at e)

set_option maxRecDepth 100000 in
set_option maxHeartbeats 2000000 in
theorem Cell_any (w : World) (Mx off cp : Nat) (a b c d : UInt8) (h : ∀ i x, [a, b, c, d][i]? = some x → w.cell? ⟨Mx, off + i, none⟩ = some (bv x)) (X : Int) (hX : (wordN [a, b, c, d] : Int) = X) :
    Calls Try.prog 35 #[.slice (some ⟨Mx, off, none⟩) 4 cp] w fun e w' => e = .returned (.int .u32 X) ∧ w = w' := by
  obtain ⟨y0, hy0⟩ : ∃ y : Int, y = a.toNat := ⟨_, rfl⟩
  obtain ⟨y1, hy1⟩ : ∃ y : Int, y = b.toNat := ⟨_, rfl⟩
  obtain ⟨y2, hy2⟩ : ∃ y : Int, y = c.toNat := ⟨_, rfl⟩
  obtain ⟨y3, hy3⟩ : ∃ y : Int, y = d.toNat := ⟨_, rfl⟩
  have q0 : w.cell? ⟨Mx, off, none⟩ = some (.int .u8 y0) := by rw [hy0]; exact h 0 a rfl
  have q1 : w.cell? ⟨Mx, off + 1, none⟩ = some (.int .u8 y1) := by rw [hy1]; exact h 1 b rfl
  have q2 : w.cell? ⟨Mx, off + 2, none⟩ = some (.int .u8 y2) := by rw [hy2]; exact h 2 c rfl
  have q3 : w.cell? ⟨Mx, off + 3, none⟩ = some (.int .u8 y3) := by rw [hy3]; exact h 3 d rfl
  have b0 : 0 ≤ y0 ∧ y0 < 256 := by have := a.toNat_lt; omega
  have b1 : 0 ≤ y1 ∧ y1 < 256 := by have := b.toNat_lt; omega
  have b2 : 0 ≤ y2 ∧ y2 < 256 := by have := c.toNat_lt; omega
  have b3 : 0 ≤ y3 ∧ y3 < 256 := by have := d.toNat_lt; omega
  obtain ⟨z2, hz2⟩ : ∃ z : Int, y3 * 256 + y2 = z := ⟨_, rfl⟩
  obtain ⟨z1, hz1⟩ : ∃ z : Int, z2 * 256 + y1 = z := ⟨_, rfl⟩
  have hz0 : z1 * 256 + y0 = X := by
    rw [← hX]; unfold wordN; simp; omega
  have c2 : 0 ≤ z2 ∧ z2 < 65536 := by omega
  have c1 : 0 ≤ z1 ∧ z1 < 16777216 := by omega
  have c0 : 0 ≤ X ∧ X < 4294967296 := by omega
  obtain ⟨b00, b01⟩ := b0
  obtain ⟨b10, b11⟩ := b1
  obtain ⟨b20, b21⟩ := b2
  obtain ⟨b30, b31⟩ := b3
  obtain ⟨c20, c21⟩ := c2
  obtain ⟨c10, c11⟩ := c1
  obtain ⟨c00, c01⟩ := c0
  clear hy0 hy1 hy2 hy3 h hX
  go_enter Try.func35, Try.ntmps35
  go_wp2_with fail
  go_loopw [3, 4] (fun n i wr => Hid (w = wr) ∧ ((n = .int .u32 0 ∧ i = .int .i64 3) ∨ (n = .int .u32 y3 ∧ i = .int .i64 2) ∨ (n = .int .u32 z2 ∧ i = .int .i64 1) ∨ (n = .int .u32 z1 ∧ i = .int .i64 0) ∨ (n = .int .u32 X ∧ i = .int .i64 (-1)))) (fun _ i _ => (intOf i + 1).toNat)
  case atStart => exact ⟨Lib.hid rfl, .inl ⟨rfl, rfl⟩⟩
  case round =>
    obtain ⟨hww, hcase⟩ := hrel
    obtain rfl := hww.out
    rcases hcase with ⟨rfl, rfl⟩ | ⟨rfl, rfl⟩ | ⟨rfl, rfl⟩ | ⟨rfl, rfl⟩ | ⟨rfl, rfl⟩
    · go_wp2
      go_roundw
      case rel => exact ⟨Lib.hid trivial, .inr (.inl ⟨rfl, rfl⟩)⟩
      case measure => simp [intOf]
    · go_wp2
      go_roundw
      case rel => exact ⟨Lib.hid trivial, .inr (.inr (.inl ⟨rfl, rfl⟩))⟩
      case measure => simp [intOf]
    · go_wp2
      go_roundw
      case rel => exact ⟨Lib.hid trivial, .inr (.inr (.inr (.inl ⟨rfl, rfl⟩)))⟩
      case measure => simp [intOf]
    · go_wp2
      go_roundw
      case rel => exact ⟨Lib.hid trivial, .inr (.inr (.inr (.inr ⟨rfl, rfl⟩)))⟩
      case measure => simp [intOf]
    · go_wp2
      go_ret
      exact ⟨rfl, rfl⟩

set_option maxRecDepth 100000 in
set_option maxHeartbeats 2000000 in
theorem r9Load_any (w : World) (aw : Option Addr) (cw Mw : Nat) (ar : Option Addr) (cr Mr : Nat) (wl rl : Nat) (hwl : wl = win.length) (hrl : rl = ram.length) (hw : win.length ≤ 65536) (hr : ram.length ≤ 65536) (hwR : Reads w (.slice aw wl cw) win Mw) (hrR : Reads w (.slice ar rl cr) ram Mr)
    (A : Nat) (a1 : A < 4294967296) (x t : Int) (hx : (loadX win ram A : Int) = x) (ht : loadT win ram A = t) :
    Calls Try.prog 33 #[.agg #[.slice aw wl cw, .slice ar rl cr], .int .u32 A] w fun e w' => e = .returned (.tuple #[.int .u32 x, .int .i32 t]) ∧ Keeps [] w w' := by
  have HGET := Lib.hid (fun (U : World) (hU : Keeps [] w U) => Get_any (win := win) (ram := ram) U aw cw Mw ar cr Mr wl rl hwl hrl hw hr (hwR.keeps hU (by simp)) (hrR.keeps hU (by simp)) A 4 a1 (by decide))
  clear hwR hrR hwl hrl hw hr
  unfold loadX at hx
  unfold loadT at ht
  by_cases ha : A % 4 = 0
  · rw [if_pos ha] at hx ht
    have ha4 : (A : Int) % 4 = 0 := by omega
    rcases tT_or win ram A 4 with h0 | h9
    · obtain ⟨c0, c1, c2, c3, hg⟩ := list4 (gL_length h0)
      rw [hg, h0] at HGET
      rw [hg] at hx
      rw [h0] at ht
      subst ht
      have HX := Lib.hid hx
      clear h0 hg ha hx
      go_enter Try.func33, Try.ntmps33
      go_wp2_with (first
        | (go_at_call 32; refine (HGET.out _ (Keeps.alloc [] w _)).mono ?_; rintro e w2 ⟨u, rfl, ho, hk⟩; obtain ⟨b, cp, rfl, _, hrow⟩ := owns_some ho (by simp); have HCELL := Lib.hid (fun (i : Nat) (x : UInt8) (hx : [c0, c1, c2, c3][i]? = some x) => show w2.cell? ⟨b, 0 + i, none⟩ = some (bv x) from by rw [Nat.zero_add]; exact hrow.cell i (by rw [List.getElem?_map, hx]; rfl)); have HK := Lib.hid ((Keeps.alloc [] w _).trans hk); clear ho hk hrow)
        | (go_at_call 35; refine (Cell_any w2 b 0 cp c0 c1 c2 c3 HCELL.out x HX.out).mono ?_; rintro e w3 ⟨rfl, rfl⟩))
      go_ret2
      exact ⟨rfl, HK.out⟩
    · rw [gL_none (by rw [h9]; decide), h9] at HGET
      rw [gL_none (by rw [h9]; decide)] at hx
      rw [h9] at ht
      subst ht
      rw [show ((wordN [] : Nat) : Int) = 0 from rfl] at hx
      subst hx
      clear h9 ha
      go_enter Try.func33, Try.ntmps33
      go_wp2_with (first | (go_at_call 32; refine (HGET.out _ (Keeps.alloc [] w _)).mono ?_; rintro e w2 ⟨u, rfl, ho, hk⟩; obtain ⟨ao, cp, rfl⟩ := owns_shape2 ho; have HK := Lib.hid ((Keeps.alloc [] w _).trans hk); clear ho hk))
      go_ret2
      exact ⟨rfl, HK.out⟩
  · rw [if_neg ha] at hx ht
    subst ht
    rw [show ((0 : Nat) : Int) = 0 from rfl] at hx
    subst hx
    have ha4 : ¬ (A : Int) % 4 = 0 := by omega
    clear ha
    go_enter Try.func33, Try.ntmps33
    go_wp2
    go_ret2
    exact ⟨rfl, Keeps.alloc [] w _⟩
end
end Go.Proofs.Ytcbdkkpoliameaa
