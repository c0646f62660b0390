/-
  Plain primitives: cells that become others.
-/
import Derived.Test.YtfnjjanknfmibaaGreatPlNamed
namespace Go.Proofs.YtfnjjanknfmibaaGreat
open Go.RowKit
set_option linter.unusedVariables false

set_option maxRecDepth 100000 in
set_option maxHeartbeats 2000000 in
theorem becomes_ok (w : World) (inV outV : Value) (inL outL : List (BitVec 32)) (Mi oi Mo oo Nb n cap : Nat) (is : List Nat) (want : Int) (X : PSt) (hi : UReads w inV inL Mi oi) (ho : UReads w outV outL Mo oo) (li : inL.length ≤ maxLen) (hn : is.length = n) (hn1 : n ≤ 100)
    (h73 : ∀ (j i : Nat), is[j]? = some i → i < 73) (hc : ∀ (j i : Nat), is[j]? = some i → w.cell? ⟨Nb, j, none⟩ = some (str (primI i).name)) (hNb : Nb < w.heap.size)
    (hM : namedM 20 [] is ⟨inL.take (min inL.length 20), [], List.replicate 32 0⟩ = (want, X)) (hX : X.s = outL) :
    Calls Tryz.prog 27 #[inV, .slice (some ⟨Nb, 0, none⟩) n cap, outV, .int .i32 want] w fun e w' => e = .returned (.bool true) ∧ Keeps [] w w' := by
  have HB := Lib.hid (Begun_any w 20 (by decide) (by decide) inV (.slice none 0 0) (.slice none 0 0) inL [] [] Mi oi 0 0 0 hi (UReads.nil _ _ _) (.inl ⟨rfl, rfl⟩) li (by decide) (by decide))
  simp only [List.take_nil, show Int.toNat 20 = 20 from rfl] at HB
  have HN := Lib.hid (fun gs gr gm κ U (hl : Lab w κ U gs gr gm 20 (inL.take (min inL.length 20)) [] [] (List.replicate 32 0)) (hk : Keeps [] w U) => Named_12 hl Nb n cap is hn hn1 (hl.older hNb) h73 (fun j i hji => hk.cell (hc j i hji) (by simp)))
  rw [hM] at HN
  have HO := Lib.hid ho
  have HXX := Lib.hid hX
  have HLL := Lib.hid (fun U (hk : Keeps [] w U) => ho.keeps hk (by simp))
  obtain ⟨oa, oc, rfl, _⟩ := ho.shape
  clear hi ho hc h73 hM hX
  generalize inL.take (min inL.length 20) = s0 at *
  generalize outL.length = ol at *
  go_enter Tryz.func27, Tryz.ntmps27
  go_upto_region 2 with (go_at_call 4; refine HB.out.mono ?_; rintro e w1 ⟨gs, gr, gm, κ, rfl, hl1, hk1⟩; have HL1 := Lib.hid hl1; have HK1 := Lib.hid hk1; clear hl1 hk1)
  have HA := Lib.hid (Keeps.alloc [] w1 (.cells #[.pointer (some ⟨gs, 0, none⟩), .pointer (some ⟨gr, 0, none⟩), .pointer (some ⟨gm, 0, none⟩)] 28))
  have HV := Lib.hid (cell_alloc_new w1 #[.pointer (some ⟨gs, 0, none⟩), .pointer (some ⟨gr, 0, none⟩), .pointer (some ⟨gm, 0, none⟩)] 28)
  have HZ := Lib.hid (HL1.out.newer (x := w1.heap.size) (Nat.le_refl _))
  generalize w1.alloc (.cells #[.pointer (some ⟨gs, 0, none⟩), .pointer (some ⟨gr, 0, none⟩), .pointer (some ⟨gm, 0, none⟩)] 28) = V at *
  have b0 : V.cell? ⟨w1.heap.size, 0, none⟩ = some (.pointer (some ⟨gs, 0, none⟩)) := HV.out 0
  have b1 : V.cell? ⟨w1.heap.size, 1, none⟩ = some (.pointer (some ⟨gr, 0, none⟩)) := HV.out 1
  have b2 : V.cell? ⟨w1.heap.size, 2, none⟩ = some (.pointer (some ⟨gm, 0, none⟩)) := HV.out 2
  have HN1 := Lib.hid (HN.out gs gr gm κ V (HL1.out.next HA.out) (HK1.out.trans HA.out))
  clear HN HB
  go_wp2_with (first
    | (go_at_call 40; refine HN1.out.mono ?_; rintro e w2 ⟨κ2, rfl, hl2, hs2⟩; have HL2 := Lib.hid hl2; have HS2 := Lib.hid hs2; replace b0 := hs2.cell b0 HZ.out; clear hl2 hs2)
    | (go_at_call 5; refine (All_lab HL2.out).mono ?_; rintro e w3 ⟨a, c, M, rfl, hu, _, hk⟩; have HU := Lib.hid hu; have HK3 := Lib.hid hk; clear hu hk)
    | (go_at_call 9; refine (cells12_any _ _ _ X.s outL M 0 Mo oo HU.out (HLL.out _ (HL2.out.kept.trans HK3.out)) (by have := HL2.out.lens.1; unfold maxLen; omega)).mono ?_; rintro e w4 ⟨rfl, hk⟩; have HK4 := Lib.hid hk; clear hk))
  go_ret
  rw [HXX.out]
  exact ⟨by simp, (HL2.out.kept.trans HK3.out).trans HK4.out⟩
end Go.Proofs.YtfnjjanknfmibaaGreat
