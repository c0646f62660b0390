/-
  The primitives: Named.
-/
import Derived.Test.YtfnjjanknfmibaaPmGet
namespace Go.Proofs.Ytfnjjanknfmibaa
open Go.RowKit Go.Deep
set_option linter.unusedVariables false

def namedP (nm : List UInt8) : Option Pm := tabL.find? fun p => alikeB p.name nm

theorem named_at : ∀ (l : List Pm) (nm : List UInt8) (i : Nat) (p : Pm), l[i]? = some p → alikeB p.name nm = true → (∀ k, k < i → ∀ q, l[k]? = some q → alikeB q.name nm = false) → l.find? (fun p => alikeB p.name nm) = some p
  | [], nm, i, p, h, _, _ => by simp at h
  | q :: l, nm, 0, p, h, hn, _ => by
    simp at h; subst h
    exact List.find?_cons_of_pos (p := fun p : Pm => alikeB p.name nm) hn
  | q :: l, nm, i + 1, p, h, hn, hk => by
    have := hk 0 (by omega) q rfl
    refine (List.find?_cons_of_neg (p := fun p : Pm => alikeB p.name nm) (by rw [this]; decide)).trans ?_
    exact named_at l nm i p (by simpa using h) hn (fun k hki q hq => hk (k + 1) (by omega) q (by simpa using hq))

theorem namedP_at {nm : List UInt8} {i : Nat} (h : i < 113) (hy : alikeB (primI i).name nm = true) (hn : ∀ k, k < i → alikeB (primI k).name nm = false) : namedP nm = some (primI i) := by
  refine named_at tabL _ i _ (primI_get h) hy (fun k hk q hq => ?_)
  rw [primI_get (by omega)] at hq
  injection hq with hq
  subst hq
  exact hn k hk

theorem namedP_none {nm : List UInt8} (hn : ∀ k, k < 113 → alikeB (primI k).name nm = false) : namedP nm = none := by
  unfold namedP
  rw [List.find?_eq_none]
  intro p hp
  obtain ⟨i, hi⟩ := List.mem_iff_getElem?.1 hp
  have hl := (List.getElem?_eq_some_iff.1 hi).1
  rw [tabL_length] at hl
  rw [primI_get hl] at hi
  injection hi with hi
  subst hi
  rw [hn i hl]; decide

set_option maxRecDepth 100000 in
theorem name_len (i : Nat) (h : i < 113) : (primI i).name.length ≤ maxLen := by
  have h0 : (List.range 113).all (fun i => decide ((primI i).name.length ≤ 31)) = true := by kernel_rfl
  have := of_decide_eq_true (List.all_eq_true.1 h0 i (List.mem_range.2 h))
  unfold maxLen; omega

theorem run_index_prim (w : World) (i : Nat) (h : i < 113) : (Instr.index 61 (.agg (cellsP tabL).toArray) (.int .i64 (i : Int))).run Try.prog w = .ok (pmv (primI i)) w := by
  have hu : Try.prog.underlying 61 = some (.array 113 27) := by kernel_rfl
  have hp : (Try.prog.info? 27).map (·.size) = some 7 := by kernel_rfl
  obtain ⟨ip, hip, hs⟩ : ∃ ip, Try.prog.info? 27 = some ip ∧ ip.size = 7 := by
    cases hq : Try.prog.info? 27 with
    | none => rw [hq] at hp; cases hp
    | some ip => rw [hq] at hp; exact ⟨ip, rfl, by simpa using hp⟩
  have hup : ∃ fs, Try.prog.underlying 27 = some (.struct fs) := ⟨_, Try.underlying27⟩
  obtain ⟨fs, hup⟩ := hup
  have hc : (List.take 7 (List.drop (i * 7) (cellsP tabL))) = (primI i).cells := by
    apply List.ext_getElem?
    intro k
    rw [List.getElem?_take]
    by_cases hk : k < 7
    · rw [if_pos hk, List.getElem?_drop, cellsP_get, show (i * 7 + k) / 7 = i by omega, show (i * 7 + k) % 7 = k by omega, primI_get h]; rfl
    · rw [if_neg hk, List.getElem?_eq_none (by rw [show (primI i).cells.length = 7 from rfl]; omega)]
  simp [Instr.index, asIntOf, run_underlying hu, sizeOf, typeInfo, hip, hs, part, isAgg, run_underlying hup, h, hc, pmv]

set_option maxRecDepth 100000 in
set_option maxHeartbeats 2000000 in
theorem Named_any (w : World) (nm : List UInt8) : Calls Try.prog 12 #[str nm] w fun e w' => e = .returned (.tuple #[pmv (pOf (namedP nm)), .bool (namedP nm).isSome]) ∧ Keeps [] w w' := by
  have HX := Lib.hid fun (w : World) (i : Nat) (h : i < 113) => run_index_prim w i h
  have HA := Lib.hid fun (w : World) (i : Nat) (h : i < 113) => Alike_any w (primI i).name nm (name_len i h)
  have HP := Lib.hid prims_any
  have HZ := Lib.hid fun W (hk : Keeps [] (w.alloc (.cells zeroP.toArray 27)) W) => Whole.keeps (Whole.new w 27 zeroP) hk (by simp)
  have HY := Lib.hid fun i h1 h2 h3 => namedP_at (nm := nm) (i := i) h1 h2 h3
  have HN := Lib.hid fun h1 => namedP_none (nm := nm) h1
  unfold tabV at HP
  generalize hpo : namedP nm = po at *
  clear hpo
  generalize (cellsP tabL).toArray = tc at *
  unfold str at *
  generalize ByteArray.mk nm.toArray = s at *
  go_enter Try.func12, Try.ntmps12
  go_wp2_with (refine (HP.out _).mono ?_; rintro e w3 ⟨rfl, hk3⟩; have HK3 := Lib.hid hk3; clear hk3)
  go_loopw [7] (fun i wr => ∃ k : Nat, k ≤ 113 ∧ i = .int .i64 (k : Int) ∧ (∀ j, j < k → alikeB (primI j).name nm = false) ∧ Keeps [] (w.alloc (.cells zeroP.toArray 27)) wr) (fun i _ => 113 - (intOf i).toNat)
  case atStart => exact ⟨0, by omega, rfl, fun j hj => by omega, HK3.out⟩
  case round =>
    obtain ⟨k, hk, rfl, hno, hkr⟩ := hrel
    have HR := Lib.hid hkr
    have HO := Lib.hid hno
    by_cases hlt : k < 113
    · have hlt' : (k : Int) < 113 := by omega
      have hx := HX.out wr k hlt
      rw [pmv_lit] at hx
      have ha := Lib.hid fun W => HA.out W k hlt
      have HYk := Lib.hid fun h => HY.out k hlt h hno
      have HV := Lib.hid (pmv_lit (primI k))
      clear hkr hno
      cases hq : alikeB (primI k).name nm with
      | false =>
        rw [hq] at ha
        have HO2 := Lib.hid hq
        clear hq
        generalize ((primI k).num : Int) = a at *
        generalize ByteArray.mk (primI k).name.toArray = st at *
        generalize ((primI k).takes : Int) = t at *
        generalize ((primI k).gives : Int) = g at *
        generalize ((primI k).ops : Int) = o at *
        generalize (primI k).text = tx at *
        generalize (primI k).jump = jp at *
        go_wp2_with (refine (ha.out _).mono ?_; rintro e w4 ⟨rfl, m4, rfl⟩)
        go_roundw
        case rel => exact ⟨k + 1, by omega, by go_num, fun j hj => by
          by_cases he : j = k
          · subst he; exact HO2.out
          · exact HO.out j (by omega), HR.out.trans ((Keeps.alloc [] _ _).trans (Keeps.drewN [] _ _))⟩
        case measure => simp [intOf]; omega
      | true =>
        rw [hq] at ha
        have HPO := Lib.hid (HYk.out hq)
        clear hq
        generalize ((primI k).num : Int) = a at *
        generalize ByteArray.mk (primI k).name.toArray = st at *
        generalize ((primI k).takes : Int) = t at *
        generalize ((primI k).gives : Int) = g at *
        generalize ((primI k).ops : Int) = o at *
        generalize (primI k).text = tx at *
        generalize (primI k).jump = jp at *
        go_wp2_with (refine (ha.out _).mono ?_; rintro e w4 ⟨rfl, m4, rfl⟩; have hw5 := HZ.out _ (HR.out.trans ((Keeps.alloc [] wr (.cells #[.int .u32 a, .string st, .int .i64 t, .int .i64 g, .int .i64 o, .bool tx, .bool jp] 27)).trans (Keeps.drewN [] _ m4))); have HW5 := Lib.hid hw5; obtain ⟨c0, c1, c2, c3, c4, c5, c6⟩ := hw5.prim; obtain ⟨f0, f1, f2, f3, f4, f5, f6⟩ := hw5.frozen7; clear hw5)
        have hs7 := set7_whole HW5.out rfl a t g o st tx jp
        change bodyPost _ _ _ _ _ (set7 ((wr.alloc (.cells #[.int .u32 a, .string st, .int .i64 t, .int .i64 g, .int .i64 o, .bool tx, .bool jp] 27)).drewN m4) w.heap.size a t g o st tx jp)
        generalize set7 ((wr.alloc (.cells #[.int .u32 a, .string st, .int .i64 t, .int .i64 g, .int .i64 o, .bool tx, .bool jp] 27)).drewN m4) w.heap.size a t g o st tx jp = V at *
        obtain ⟨g0, g1, g2, g3, g4, g5, g6⟩ := hs7.1.prim
        refine bodyPost_ret (v := .tuple #[.agg #[.int .u32 a, .string st, .int .i64 t, .int .i64 g, .int .i64 o, .bool tx, .bool jp], .bool true]) (by simp [results, Try.results12, go_sem, g0, g1, g2, g3, g4, g5, g6]) rfl ⟨by rw [HPO.out]; exact congrArg Ending.returned (congrArg Value.tuple (by rw [pOf, Option.getD_some, HV.out]; rfl)), (((Keeps.alloc [] w _).trans HR.out).trans ((Keeps.alloc [] _ _).trans (Keeps.drewN [] _ _))).then hs7.2 (fun x hx => .inr (by simp at hx; omega))⟩
    · have hlt' : ¬ (k : Int) < 113 := by omega
      obtain rfl : k = 113 := by omega
      have HPO := Lib.hid (HN.out hno)
      have hw5 := HZ.out wr hkr
      have HW5 := Lib.hid hw5
      obtain ⟨c0, c1, c2, c3, c4, c5, c6⟩ := hw5.prim
      obtain ⟨f0, f1, f2, f3, f4, f5, f6⟩ := hw5.frozen7
      clear hw5 hkr hno
      go_wp2
      have hs7 := set7_whole HW5.out rfl 0 0 0 0 ⟨#[]⟩ false false
      change bodyPost _ _ _ _ _ (set7 wr w.heap.size 0 0 0 0 ⟨#[]⟩ false false)
      generalize set7 wr w.heap.size 0 0 0 0 ⟨#[]⟩ false false = V at *
      obtain ⟨g0, g1, g2, g3, g4, g5, g6⟩ := hs7.1.prim
      refine bodyPost_ret (v := .tuple #[.agg #[.int .u32 0, .string ⟨#[]⟩, .int .i64 0, .int .i64 0, .int .i64 0, .bool false, .bool false], .bool false]) (by simp [results, Try.results12, go_sem, g0, g1, g2, g3, g4, g5, g6]) rfl ⟨by rw [HPO.out]; rfl, ((Keeps.alloc [] w _).trans HR.out).then hs7.2 (fun x hx => .inr (by simp at hx; omega))⟩
end Go.Proofs.Ytfnjjanknfmibaa
