/-
  ShaParts, walked.
-/
import Derived.Test.YtpabooocbileiaaDoorShaPartsA
namespace Go.Proofs.YtpabooocbileiaaDoor
open Go.RowKit

set_option maxRecDepth 100000 in
set_option maxHeartbeats 1000000 in
theorem ShaParts_big (w : World) (p : Option Addr) (n c : Nat) (hR : Roots w) (h : 20 < n) (hm : n ≤ maxLen) :
    Calls Tryd.prog 4 #[.slice p n c] w fun e w' => e = .returned (.bool true) ∧ Keeps [] w w' := by
  unfold maxLen at hm
  have HR := Lib.hid hR
  have h' : (20 : Int) < n := by omega
  clear hR
  go_enter Tryd.func4, Tryd.ntmps4
  go_wp2_with (go_at_call 8; refine (awake3_any _ HR.out).mono ?_; rintro e w1 ⟨rfl, k1⟩; have K1 := Lib.hid k1; clear k1)
  go_ret
  exact ⟨rfl, K1.out⟩

/-- The parts, as the walk takes them. -/
def PartsAt (w : World) (B o : Nat) (ls : List (List UInt8)) : Prop :=
  ∀ i l, ls[i]? = some l → ∃ pp cc M, w.cell? ⟨B, o + i, none⟩ = some (.slice pp l.length cc) ∧ Reads w (.slice pp l.length cc) l M ∧ l.length ≤ maxLen ∧ (l ≠ [] → M < w.heap.size)

theorem take_flat (ls : List (List UInt8)) (k : Nat) (l : List UInt8) (h : ls[k]? = some l) : (ls.take (k + 1)).flatten = (ls.take k).flatten ++ l := by
  rw [List.take_add_one, h]
  simp

set_option maxRecDepth 100000 in
set_option maxHeartbeats 4000000 in
theorem ShaParts_small (w : World) (a : Option Addr) (c B o : Nat) (ls : List (List UInt8)) (ha : ls ≠ [] → a = some ⟨B, o, none⟩) (hp : PartsAt w B o ls) (hR : Roots w) (h : ls.length ≤ 20) :
    Calls Tryd.prog 4 #[.slice a ls.length c] w fun e w' => e = .returned (.bool true) ∧ Keeps [] w w' := by
  have HR := Lib.hid hR
  have HP := Lib.hid hp
  have HA := Lib.hid ha
  have hlt := hR.lt
  have h' : ¬ (20 : Int) < ls.length := by omega
  have hgd := run_guard
  clear hR hp ha
  generalize hnl : ls.length = nl at *
  have HNL := Lib.hid hnl
  clear hnl
  go_enter Tryd.func4, Tryd.ntmps4
  go_wp2_with fail
  refine (New_any _ HR.out).mono ?_
  rintro e w1 ⟨x, rfl, hx, hhx, k1⟩
  have K1 := Lib.hid k1
  have X1 := Lib.hid hhx
  have R1 := Lib.hid (HR.out.keeps k1 (by simp) (by simp))
  have lx := hhx.lt
  clear k1 hhx
  go_wp2_with fail
  refine (New_any _ R1.out).mono ?_
  rintro e V ⟨y, rfl, hy, hhy, k2⟩
  have K2 := Lib.hid (K1.out.trans k2)
  have X2 := Lib.hid (X1.out.keeps k2 (by simp))
  have Y2 := Lib.hid hhy
  have R2 := Lib.hid (R1.out.keeps k2 (by simp) (by simp))
  have ly := hhy.lt
  have zV := K2.out.size
  have zV1 := k2.size
  clear k2 hhy
  go_wp2
  go_loopw [5, 16] (fun al i wr => ∃ (k : Nat) (ao : Option Addr) (cp : Nat), k ≤ nl ∧ i = .int .i64 k ∧ al = .slice ao ((ls.take k).flatten).length cp ∧ wr.ownsRow V.heap.size 5 1 (.slice ao ((ls.take k).flatten).length cp) ((ls.take k).flatten).length (((ls.take k).flatten).map bv) ∧
    HashAt wr x ((ls.take k).flatten) ∧ HashAt wr y ((ls.take k).flatten) ∧ Keeps [x, y] V wr ∧ ((ls.take k).flatten).length ≤ 300 * k) (fun _ i _ => nl - (intOf i).toNat)
  case atStart => exact ⟨0, none, 0, Nat.zero_le _, rfl, rfl, World.ownsRow_nil _ _ _ _, X2.out, Y2.out, Keeps.refl _ _, by simp⟩
  case round =>
    obtain ⟨k, ao, cp, hk, rfl, rfl, hown, hX, hY, kp, hlen⟩ := hrel
    have hV : wr.heap.size ≥ V.heap.size := kp.size
    have kw : Keeps [] w wr := K2.out.then kp (fun i hi => .inr (by simp at hi; omega))
    have hRr := HR.out.keeps kw (by simp) (by simp)
    by_cases hltk : k < nl
    · have hltk' : (k : Int) < nl := by omega
      have hlk : ls[k]? = some (ls[k]'(by have := HNL.out; omega)) := List.getElem?_eq_getElem _
      generalize ls[k]'(by have := HNL.out; omega) = l at hlk
      obtain ⟨pp, cc, M, hcell, hrd, hmax, hMw⟩ := HP.out k l hlk
      have hcell' := kw.cell hcell (by simp)
      have hrd' := hrd.keeps kw (by simp)
      have haeq := HA.out (by intro e; subst e; simp at hlk)
      subst haeq
      unfold maxLen at hmax
      have hflat := take_flat ls k l hlk
      have HRD := Lib.hid hrd'
      have HX := Lib.hid hX
      have HY := Lib.hid hY
      have HO := Lib.hid hown
      have KP := Lib.hid kp
      have KW := Lib.hid kw
      have RR := Lib.hid hRr
      have HF := Lib.hid hflat
      clear hcell hrd hrd' hX hY hown kp kw hRr hlk hflat
      generalize (ls.take k).flatten = L at *
      by_cases h300 : 300 < l.length
      · have h300' : (300 : Int) < l.length := by omega
        go_wp2_with (go_at_call 8; refine (awake3_any _ RR.out).mono ?_; rintro e w3 ⟨rfl, k3⟩; have K3 := Lib.hid k3; clear k3)
        go_ret
        exact ⟨rfl, KW.out.trans K3.out⟩
      · have h300' : ¬ (300 : Int) < l.length := by omega
        have hLl : (L ++ l).length = L.length + l.length := List.length_append
        have hea := fun w => run_same w (sumOf kk h0 (L ++ l)) (sumOf_length _ _ _)
        -- the part's bytes lie below what is one's own
        obtain ⟨M', hrdM, hM'⟩ : ∃ M', Reads wr (.slice pp l.length cc) l M' ∧ M' < w.heap.size := by
          by_cases hl : l = []
          · subst hl; exact ⟨0, HRD.out.anyBlock 0, by omega⟩
          · exact ⟨M, HRD.out, hMw hl⟩
        have HRM := Lib.hid hrdM
        have HLL := Lib.hid hLl
        clear hrdM hLl HRD
        go_upto_region 11 with (at_builtin; refine wpList_append_reads rfl (.tmp 24) (.tmp 25) rfl V.heap.size (.slice ao L.length cp) L rfl HO.out (.slice pp l.length cc) l M' rfl HRM.out (by omega) hV ?_; intro v' w3 hown3 k3; have HO3 := Lib.hid hown3; have K3 := Lib.hid k3; clear hown3 k3)
        have hS : ∀ g ∈ (Value.slice ao L.length cp).ownBlock.toList, V.heap.size ≤ g := fun g hg => (HO.out.lt g (by simpa using hg)).1
        obtain ⟨ao', cp', rfl⟩ := owns_shape2 HO3.out
        have X3 := Lib.hid (HX.out.keeps K3.out (fun hm => by have := hS _ hm; omega))
        have Y3 := Lib.hid (HY.out.keeps K3.out (fun hm => by have := hS _ hm; omega))
        have M3 := Lib.hid (HRM.out.keeps K3.out (fun hm => by have := hS _ hm; omega))
        have R3 := Lib.hid (RR.out.keeps K3.out (fun hm => by have := hS _ hm; omega) (fun hm => by have := hS _ hm; omega))
        have KP3 := Lib.hid (KP.out.then K3.out (fun g hg => .inr (hS g hg)))
        have z3 := K3.out.size
        have hlenL : L.length ≤ 6000 := by omega
        have hlenLL : (L ++ l).length ≤ 6300 := by have := HLL.out; omega
        have hlen1 : (L ++ l).length ≤ 300 * (k + 1) := by have := HLL.out; omega
        have hlenb : L.length + l.length ≤ 1000000000 := by omega
        have WX := Lib.hid (Write_any w3 x M' L l _ X3.out M3.out (by omega) R3.out (by omega) (by omega) hlenb)
        have WY := Lib.hid (fun (u : World) (h1 : HashAt u y L) (h2 : Reads u (.slice pp l.length cc) l M') (h3 : Roots u) => Write_any u y M' L l _ h1 h2 (by omega) h3 (by omega) (by omega) hlenb)
        clear hS HX HY HRM RR KP K3 HO X3
        generalize L ++ l = LL at *
        have hown3' := HO3.out.lt
        have OB := Lib.hid hown3'
        clear hown3'
        go_wp2_with fail
        refine WX.out.mono ?_
        rintro e w4 ⟨rfl, h4, k4⟩
        have X4 := Lib.hid h4
        have Y4 := Lib.hid (Y3.out.keeps k4 (notMem1 (by omega)))
        have M4 := Lib.hid (M3.out.keeps k4 (notMem1 (by omega)))
        have R4 := Lib.hid (R3.out.keeps k4 (notMem1 (by omega)) (notMem1 (by omega)))
        have O4 := Lib.hid (World.ownsRow.keeps HO3.out k4 (fun g hg => notMem1 (by have := (OB.out g hg).1; omega)))
        have P4 := Lib.hid (KP3.out.trans (k4.mono (by simp)))
        have z4 := k4.size
        clear k4 h4
        go_wp2_with fail
        refine (WY.out w4 Y4.out M4.out R4.out).mono ?_
        rintro e w5 ⟨rfl, h5, k5⟩
        have Y5 := Lib.hid h5
        have X5 := Lib.hid (X4.out.keeps k5 (notMem1 (by omega)))
        have R5 := Lib.hid (R4.out.keeps k5 (notMem1 (by omega)) (notMem1 (by omega)))
        have O5 := Lib.hid (World.ownsRow.keeps O4.out k5 (fun g hg => notMem1 (by have := (OB.out g hg).1; omega)))
        have P5 := Lib.hid (P4.out.trans (k5.mono (by simp)))
        have z5 := k5.size
        clear k5 h5
        go_wp2_with fail
        refine (Sum_any _ x LL X5.out R5.out (by omega)).mono ?_
        rintro e w6 ⟨rfl, k6⟩
        have X6 := Lib.hid (X5.out.keeps k6 (by simp))
        have Y6 := Lib.hid (Y5.out.keeps k6 (by simp))
        have R6 := Lib.hid (R5.out.keeps k6 (by simp) (by simp))
        have O6 := Lib.hid (World.ownsRow.keeps O5.out k6 (fun g _ => by simp))
        have P6 := Lib.hid (P5.out.trans (k6.mono (by simp)))
        have z6 := k6.size
        clear k6
        obtain ⟨Mo, hmo, hmo2⟩ := owns_reads O6.out (by omega)
        have MO := Lib.hid hmo
        clear hmo
        go_wp2_with fail
        refine (Of_any _ _ LL Mo MO.out hmo2 R6.out (by omega)).mono ?_
        rintro e w7 ⟨rfl, k7⟩
        have X7 := Lib.hid (X6.out.keeps k7 (by simp))
        have Y7 := Lib.hid (Y6.out.keeps k7 (by simp))
        have R7 := Lib.hid (R6.out.keeps k7 (by simp) (by simp))
        have O7 := Lib.hid (World.ownsRow.keeps O6.out k7 (fun g _ => by simp))
        have P7 := Lib.hid (P6.out.trans (k7.mono (by simp)))
        have z7 := k7.size
        clear k7
        go_wp2_with fail
        refine (Sum_any _ x LL X7.out R7.out (by omega)).mono ?_
        rintro e w8 ⟨rfl, k8⟩
        have X8 := Lib.hid (X7.out.keeps k8 (by simp))
        have Y8 := Lib.hid (Y7.out.keeps k8 (by simp))
        have R8 := Lib.hid (R7.out.keeps k8 (by simp) (by simp))
        have O8 := Lib.hid (World.ownsRow.keeps O7.out k8 (fun g _ => by simp))
        have P8 := Lib.hid (P7.out.trans (k8.mono (by simp)))
        clear k8
        go_wp2_with fail
        refine (Sum_any _ x LL X8.out R8.out (by omega)).mono ?_
        rintro e w9 ⟨rfl, k9⟩
        have X9 := Lib.hid (X8.out.keeps k9 (by simp))
        have Y9 := Lib.hid (Y8.out.keeps k9 (by simp))
        have O9 := Lib.hid (World.ownsRow.keeps O8.out k9 (fun g _ => by simp))
        have P9 := Lib.hid (P8.out.trans (k9.mono (by simp)))
        clear k9
        go_wp2_with fail
        refine (Len_any _ x LL X9.out).mono ?_
        rintro e w' ⟨rfl, rfl⟩
        go_wp2
        go_roundw
        case rel =>
          refine ⟨k + 1, ao', cp', by omega, by go_num, by rw [HF.out], ?_, ?_, ?_, P9.out, ?_⟩
          · rw [HF.out]; exact O9.out
          · rw [HF.out]; exact X9.out
          · rw [HF.out]; exact Y9.out
          · rw [HF.out]; exact hlen1
        case measure => simp [intOf]; omega
    · have hkn : k = nl := by omega
      subst hkn
      have hlenL : ((ls.take k).flatten).length ≤ 6000 := by omega
      have hea := fun w => run_same w (sumOf kk h0 ((ls.take k).flatten)) (sumOf_length _ _ _)
      have Y0 := Lib.hid hY
      have O0 := Lib.hid hown
      have RR := Lib.hid hRr
      have KW := Lib.hid kw
      clear hX hY hown kp hRr kw
      generalize (ls.take k).flatten = L at *
      go_wp2_with fail
      refine (Sum_any _ y L Y0.out RR.out (by omega)).mono ?_
      rintro e w3 ⟨rfl, k3⟩
      have Y3 := Lib.hid (Y0.out.keeps k3 (by simp))
      have R3 := Lib.hid (RR.out.keeps k3 (by simp) (by simp))
      have O3 := Lib.hid (World.ownsRow.keeps O0.out k3 (fun g _ => by simp))
      have P3 := Lib.hid (KW.out.trans k3)
      have z3 := k3.size
      clear k3
      obtain ⟨Mo, hmo, hmo2⟩ := owns_reads O3.out (by omega)
      have MO := Lib.hid hmo
      clear hmo
      go_wp2_with fail
      refine (Of_any _ _ L Mo MO.out hmo2 R3.out (by omega)).mono ?_
      rintro e w4 ⟨rfl, k4⟩
      have Y4 := Lib.hid (Y3.out.keeps k4 (by simp))
      have R4 := Lib.hid (R3.out.keeps k4 (by simp) (by simp))
      have P4 := Lib.hid (P3.out.trans k4)
      clear k4
      go_wp2_with fail
      refine (Len_any _ y L Y4.out).mono ?_
      rintro e w' ⟨rfl, rfl⟩
      go_wp2_with fail
      refine (awake3_any _ R4.out).mono ?_
      rintro e w5 ⟨rfl, k5⟩
      have P5 := Lib.hid (P4.out.trans k5)
      clear k5
      go_wp2
      go_ret
      exact ⟨rfl, P5.out⟩

theorem ShaParts_any (w : World) (v : Value) (ls : List (List UInt8)) (h : Parts w v ls) (hR : Roots w) :
    Calls Tryd.prog 4 #[v] w fun e w' => e = .returned (.bool true) ∧ Keeps [] w w' := by
  rcases h with ⟨rfl, rfl⟩ | ⟨a, c, rfl, hm, hp⟩
  · exact ShaParts_small w none 0 0 0 [] (fun h => absurd rfl h) (fun i l hl => by simp at hl) hR (by decide)
  · by_cases h20 : ls.length ≤ 20
    · by_cases he : ls = []
      · subst he
        exact ShaParts_small w (some a) c 0 0 [] (fun h => absurd rfl h) (fun i l hl => by simp at hl) hR (by decide)
      · obtain ⟨b, o, spot⟩ := a
        match ls, he with
        | l0 :: lr, _ =>
          obtain ⟨u, M, h0, _⟩ := hp 0 l0 rfl
          have hs : spot = none := by
            cases spot with
            | none => rfl
            | some x =>
              exfalso
              simp only [Addr.add, if_true] at h0
              unfold World.cell? at h0
              split at h0
              · simp at h0
              · cases h0
          subst hs
          refine ShaParts_small w (some ⟨b, o, none⟩) c b o (l0 :: lr) (fun _ => rfl) (fun i l hl => ?_) hR h20
          obtain ⟨u, M, hu, hr, hl2, hM⟩ := hp i l hl
          rw [Addr.add_off] at hu
          obtain ⟨pp, cc, rfl, _⟩ := hr.shape
          exact ⟨pp, cc, M, hu, hr, hl2, hM⟩
    · exact ShaParts_big w (some a) _ c hR (by omega) hm
end Go.Proofs.YtpabooocbileiaaDoor
