/-
  Plain primitives: stacks and a memory made; primitives done by their names.
-/
import Derived.Test.YtfnjjanknfmibaaGreatPlDoP
import Derived.Test.YtfnjjanknfmibaaGreatPlCells
namespace Go.Proofs.YtfnjjanknfmibaaGreat
open Go.RowKit
set_option linter.unusedVariables false

theorem MemAt.lower {w : World} {H H' g rb M : Nat} {wv : Value} {win ram : List UInt8} (h : MemAt w H g rb M wv win ram) (hH : H' ≤ H) : MemAt w H' g rb M wv win ram :=
  ⟨h.whole, h.row, h.winR, fun hw => by have := h.winM hw; exact ⟨by omega, by omega, by omega, by omega⟩, by have := h.gH; omega, by have := h.rbH; omega, h.ne, h.ram4, h.winL⟩

/-- Two stacks without cells and a memory, made one behind the other. -/
theorem Lab.made {w0 w1 w2 w3 : World} {gs gr gm rb M : Nat} {room : Int} {wv : Value} {win ram : List UInt8} {b1 b2 : Nat} (k0 : Keeps [] w0 w1) (hs : StackAt w1 b1 gs room (-3) (-4) (.slice none 0 0) []) (g1 : w0.heap.size ≤ gs)
    (k1 : Keeps [] w1 w2) (hr : StackAt w2 b2 gr room (-5) (-6) (.slice none 0 0) []) (g2 : w1.heap.size ≤ gr) (k2 : Keeps [] w2 w3) (hm : MemAt w3 w2.heap.size gm rb M wv win ram) :
    ∃ κ, Lab w0 κ w3 gs gr gm room [] [] win ram := by
  have s0 := k0.size; have s1 := k1.size; have s2 := k2.size
  have ls := hs.whole.lt; have lr := hr.whole.lt; have lm := hm.whole.lt; have lrb := hm.row.lt
  have gH := hm.gH; have rH := hm.rbH
  refine ⟨fun x => if x = gs then 1 else if x = gr then 2 else if x = gm ∨ x = rb ∨ (win ≠ [] ∧ x = M) then 3 else 0, (k0.trans k1).trans k2, ?_, ?_, ⟨b1, _, (hs.keeps k1 (by simp) (by simp)).keeps k2 (by simp) (by simp), by simp, by simp [Value.ownBlock]⟩, ⟨b2, _, hr.keeps k2 (by simp) (by simp), ?_, by simp [Value.ownBlock]⟩, ⟨rb, M, wv, hm.lower (by omega), ?_, ?_, ?_⟩⟩
  · intro x hx
    split at hx
    · omega
    · split at hx
      · omega
      · split at hx
        · next h => rcases h with h | h | ⟨h, h'⟩
                    · omega
                    · omega
                    · have := hm.winM h; omega
        · exact absurd rfl hx
  · intro x hx
    split at hx
    · omega
    · split at hx
      · omega
      · split at hx
        · next h => rcases h with h | h | ⟨h, h'⟩
                    · omega
                    · omega
                    · have := hm.winM h; omega
        · exact absurd rfl hx
  · rw [if_neg (by omega), if_pos rfl]
  · rw [if_neg (by omega), if_neg (by omega), if_pos (.inl rfl)]
  · rw [if_neg (by omega), if_neg (by omega), if_pos (.inr (.inl rfl))]
  · intro hw; have := hm.winM hw; rw [if_neg (by omega), if_neg (by omega), if_pos (.inr (.inr ⟨hw, rfl⟩))]

theorem Lab.beside {w0 w w' : World} {κ : Nat → Nat} {gs gr gm : Nat} {room : Int} {s r : List (BitVec 32)} {win ram : List UInt8} (h : Lab w0 κ w gs gr gm room s r win ram) {b : Nat} (hb : b < w0.heap.size) {v0 : World} (hv : Keeps [] v0 w0) (hbv : v0.heap.size ≤ b) (hk : Keeps [b] w w') : Lab v0 κ w' gs gr gm room s r win ram := by
  obtain ⟨h0, hn, hol, ⟨b1, v1, hs, c1, c2⟩, ⟨b2, v2, hr, d1, d2⟩, ⟨rb, M, wv, hm, e1, e2, e3⟩⟩ := h
  have hc : κ b = 0 := Classical.byContradiction fun hc => by have := hn b hc; omega
  have hne : ∀ x, κ x ≠ 0 → x ∉ [b] := fun x hx hm => by simp at hm; subst hm; exact hx hc
  have hsz := hv.size
  refine ⟨(hv.trans h0).then hk (fun x hx => .inr (by simp at hx; omega)), fun x hx => Nat.le_trans hsz (hn x hx), fun x hx => Nat.lt_of_lt_of_le (hol x hx) hk.size, ⟨b1, v1, hs.keeps hk (hne _ (by rw [c1]; decide)) (fun k hv => hne _ (by rw [c2 k hv]; decide)), c1, c2⟩, ⟨b2, v2, hr.keeps hk (hne _ (by rw [d1]; decide)) (fun k hv => hne _ (by rw [d2 k hv]; decide)), d1, d2⟩, ⟨rb, M, wv, (hm.keeps hk (hne _ (by rw [e1]; decide)) (hne _ (by rw [e2]; decide)) (fun hw => hne _ (by rw [e3 hw]; decide))).lower hsz, e1, e2, e3⟩⟩

theorem set3_whole {W : World} {b : Nat} {T : TypeId} {x y z : Value} (h : Whole W b T [x, y, z]) (p q r : Value) :
    Whole (((W.setCell ⟨b, 0, none⟩ p).setCell ⟨b, 1, none⟩ q).setCell ⟨b, 2, none⟩ r) b T [p, q, r] ∧ Keeps [b] W (((W.setCell ⟨b, 0, none⟩ p).setCell ⟨b, 1, none⟩ q).setCell ⟨b, 2, none⟩ r) :=
  ⟨((h.set 0 p).set 1 q).set 2 r, ((Keeps.setCell _ (by simp) _).trans (Keeps.setCell _ (by simp) _)).trans (Keeps.setCell _ (by simp) _)⟩
theorem cells3 {W : World} {b : Nat} {T : TypeId} {x y z : Value} (h : Whole W b T [x, y, z]) : (W.cell? ⟨b, 0, none⟩ = some x ∧ W.cell? ⟨b, 1, none⟩ = some y ∧ W.cell? ⟨b, 2, none⟩ = some z) ∧ W.frozen? ⟨b, 0, none⟩ = false ∧ W.frozen? ⟨b, 1, none⟩ = false ∧ W.frozen? ⟨b, 2, none⟩ = false :=
  ⟨⟨h.cell 0, h.cell 1, h.cell 2⟩, h.frozen 0, h.frozen 1, h.frozen 2⟩

set_option maxRecDepth 100000 in
set_option maxHeartbeats 4000000 in
theorem Begun_any (w : World) (room : Int) (m1 : 1 ≤ room) (m2 : room ≤ 4096) (sv rv wv : Value) (s r : List (BitVec 32)) (win : List UInt8) (Ms os Mr or Mw : Nat) (hs : UReads w sv s Ms os) (hr : UReads w rv r Mr or) (hw : Reads w wv win Mw)
    (ls : s.length ≤ maxLen) (lr : r.length ≤ maxLen) (lw : win.length ≤ maxLen) :
    Calls Tryz.prog 4 #[.int .i64 room, sv, rv, wv] w fun e w' => ∃ gs gr gm κ, e = .returned (.tuple #[.agg #[.pointer (some ⟨gs, 0, none⟩), .pointer (some ⟨gr, 0, none⟩), .pointer (some ⟨gm, 0, none⟩)], .bool true]) ∧
      Lab w κ w' gs gr gm room (s.take (min s.length room.toNat)) (r.take (min r.length room.toNat)) (win.take (min win.length 40)) (List.replicate 32 0) ∧ Keeps [] w w' := by
  obtain ⟨sa, sc, rfl, hsc⟩ := hs.shape
  obtain ⟨ra, rc, rfl, hrc⟩ := hr.shape
  obtain ⟨wa, wc, rfl⟩ : ∃ wa wc, wv = .slice wa win.length wc := by
    obtain ⟨a, c, e, _⟩ := hw.shape
    exact ⟨a, c, e⟩
  obtain ⟨ns, hns⟩ : ∃ ns, ns = min s.length room.toNat := ⟨_, rfl⟩
  obtain ⟨nr, hnr⟩ : ∃ nr, nr = min r.length room.toNat := ⟨_, rfl⟩
  obtain ⟨nw, hnw⟩ : ∃ nw, nw = min win.length 40 := ⟨_, rfl⟩
  rw [← hns, ← hnr, ← hnw]
  have hmS := fun w ts t => run_min2 w ts t (s.length : Int) room ns (by omega)
  have hmR := fun w ts t => run_min2 w ts t (r.length : Int) room nr (by omega)
  have hmW := fun w ts t => run_min2 w ts t (win.length : Int) 40 nw (by omega)
  have hcS := fun w => run_cutU_h w sa s.length sc ns (by omega)
  have hcR := fun w => run_cutU_h w ra r.length rc nr (by omega)
  have hhS := hs.head ns (by omega)
  have hhR := hr.head nr (by omega)
  have eS : (s.take ns).length = ns := by simp; omega
  have eR : (r.take nr).length = nr := by simp; omega
  rw [hhS.1, eS] at hcS
  rw [hhR.1, eR] at hcR
  obtain ⟨pw, cw, hcW, hrW⟩ := hw.head nw (by omega)
  have eW : (win.take nw).length = nw := by simp; omega
  rw [eW] at hcW hrW
  have HSr := Lib.hid hhS.2
  have HRr := Lib.hid hhR.2
  rw [eS] at HSr
  rw [eR] at HRr
  have HWr := Lib.hid hrW
  have HES := Lib.hid eS
  have HER := Lib.hid eR
  have HEW := Lib.hid eW
  have HNS := Lib.hid hns
  have HNR := Lib.hid hnr
  have HNW := Lib.hid hnw
  have HZ := Lib.hid (Whole.new w 28 [.pointer none, .pointer none, .pointer none])
  have hml : maxLen = 9223372036854775807 := rfl
  clear hs hr hw hhS hhR hrW eS eR eW hnw hns hnr
  generalize s.take ns = s' at *
  generalize r.take nr = r' at *
  generalize win.take nw = win' at *
  generalize s.length = ls' at *
  generalize r.length = lr' at *
  generalize win.length = lw' at *
  go_enter Tryz.func4, Tryz.ntmps4
  go_upto_region 2 with (go_at_call 12; refine (StNew_ok _ room (-3) (-4) m1 m2 (by decide) (by decide) (by decide) (by decide)).mono ?_; rintro e w1 ⟨gs, rfl, h1, g1, k1⟩; have H1 := Lib.hid h1; have K1 := Lib.hid k1; have G1 := Lib.hid g1; clear h1 k1 g1)
  go_upto_region 3 with (go_at_call 12; refine (StNew_ok _ room (-5) (-6) m1 m2 (by decide) (by decide) (by decide) (by decide)).mono ?_; rintro e w2 ⟨gr, rfl, h2, g2, k2⟩; have H2 := Lib.hid h2; have K2 := Lib.hid k2; have G2 := Lib.hid g2; clear h2 k2 g2)
  have HKW := Lib.hid ((((Keeps.alloc [] w (.cells #[.pointer none, .pointer none, .pointer none] 28))).trans K1.out).trans K2.out)
  have HN := Lib.hid (New9_ok w2 32 (by decide) (by decide) (by decide) _ win' Mw (HWr.out.keeps HKW.out (by simp)) (by rw [HEW.out]; have := HNW.out; omega))
  go_upto_region 6 with (go_at_call 13; refine HN.out.mono ?_; rintro e w3 ⟨gm, rb, M3, wv3, rfl, h3, k3⟩; have H3 := Lib.hid h3; have K3 := Lib.hid k3; clear h3 k3)
  obtain ⟨κ0, hl0⟩ := Lab.made (w0 := w.alloc (.cells #[.pointer none, .pointer none, .pointer none] 28)) K1.out H1.out G1.out K2.out H2.out G2.out K3.out H3.out
  have HL0 := Lib.hid hl0
  have HK3 := Lib.hid (HKW.out.trans K3.out)
  have HP1 := Lib.hid (Push_lab hl0 (.slice sa ns sc) s' Ms os (HSr.out.keeps HK3.out (by simp)) (by rw [HES.out]; have := HNS.out; unfold maxLen; omega) _ _ rfl rfl)
  clear hl0 H1 H2 H3 HN K1 K2 K3 G1 G2 HKW
  go_upto_region 7 with (go_at_call 14; refine HP1.out.mono ?_; rintro e w4 ⟨rfl, κ1, hl1, hs1⟩; have HL1 := Lib.hid hl1; have HS1 := Lib.hid hs1; clear hl1 hs1)
  have HP2 := Lib.hid (PushR_lab HL1.out (.slice ra nr rc) r' Mr or (HRr.out.keeps ((Keeps.alloc [] w _).trans HL1.out.kept) (by simp)) (by rw [HER.out]; have := HNR.out; unfold maxLen; omega) _ _ rfl rfl)
  go_upto_region 8 with (go_at_call 14; refine HP2.out.mono ?_; rintro e w5 ⟨rfl, κ2, hl2, hs2⟩; have HL2 := Lib.hid hl2; have HS2 := Lib.hid hs2; clear hl2 hs2)
  have hW5 := HZ.out.keeps HL2.out.kept (by simp)
  have HW5 := Lib.hid hW5
  obtain ⟨⟨z0, z1, z2⟩, f0, f1, f2⟩ := cells3 hW5
  clear hW5 HP1 HP2
  go_wp2
  have h3 := set3_whole HW5.out (.pointer (some ⟨gs, 0, none⟩)) (.pointer (some ⟨gr, 0, none⟩)) (.pointer (some ⟨gm, 0, none⟩))
  change bodyPost _ _ _ _ _ (((w5.setCell ⟨w.heap.size, 0, none⟩ (.pointer (some ⟨gs, 0, none⟩))).setCell ⟨w.heap.size, 1, none⟩ (.pointer (some ⟨gr, 0, none⟩))).setCell ⟨w.heap.size, 2, none⟩ (.pointer (some ⟨gm, 0, none⟩)))
  generalize ((w5.setCell ⟨w.heap.size, 0, none⟩ (.pointer (some ⟨gs, 0, none⟩))).setCell ⟨w.heap.size, 1, none⟩ (.pointer (some ⟨gr, 0, none⟩))).setCell ⟨w.heap.size, 2, none⟩ (.pointer (some ⟨gm, 0, none⟩)) = V at *
  obtain ⟨⟨g0, g1, g2⟩, _⟩ := cells3 h3.1
  have e1 : pushL room [] s' = s' := by unfold pushL; rw [HES.out, if_pos (by have := HNS.out; simp; omega)]; rfl
  have e2 : pushL room [] r' = r' := by unfold pushL; rw [HER.out, if_pos (by have := HNR.out; simp; omega)]; rfl
  rw [e1, e2] at HL2
  refine bodyPost_ret (v := .tuple #[.agg #[.pointer (some ⟨gs, 0, none⟩), .pointer (some ⟨gr, 0, none⟩), .pointer (some ⟨gm, 0, none⟩)], .bool true]) (by simp [results, Tryz.results4, go_sem, g0, g1, g2]) rfl ?_
  have hB := HL2.out.beside (b := w.heap.size) (by simp) (Keeps.alloc [] w _) (Nat.le_refl _) h3.2
  exact ⟨gs, gr, gm, κ2, rfl, hB, hB.kept⟩
end Go.Proofs.YtfnjjanknfmibaaGreat
