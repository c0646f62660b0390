/-
  Words that are right in a list: Check.
-/
import Derived.Test.YtfnjjanknfmibaaPmRight
namespace Go.Proofs.Ytfnjjanknfmibaa
open Go.RowKit Go.Deep Go.Great
set_option linter.unusedVariables false

set_option maxRecDepth 100000 in
theorem infoChecker : ((Try.prog.info? 67).bind (·.zero)).map (·.cells.size) = some 793 := by kernel_rfl

set_option maxRecDepth 100000 in
theorem zeroChecker : ∃ zs : Array Value, zs.size = 793 ∧ ∀ w, (zeroValue 67).run Try.prog w = .ok (.agg zs) w := by
  have h := infoChecker
  cases hi : Try.prog.info? 67 with
  | none => simp [hi] at h
  | some i =>
    cases hz : i.zero with
    | none => simp [hi, hz] at h
    | some z =>
      simp only [hi, hz, Option.bind_some, Option.map_some, Option.some.injEq] at h
      cases z with
      | agg zs => exact ⟨zs, h, fun w => by simp [zeroValue, typeInfo, hi, hz]⟩
      | _ => simp [Value.cells] at h

def ckCells (v m : Value) : List Value := cellsP tabL ++ [v, m]
set_option maxRecDepth 100000 in
theorem ckCells_length (v m : Value) : (ckCells v m).length = 793 := by
  unfold ckCells; rw [List.length_append, cellsP_length, tabL_length]; rfl

set_option maxRecDepth 100000 in
theorem set_three {z : Array Value} {t : List Value} {v m : Value} (hz : z.size = 793) (ht : t.length = 791) :
    ∃ r : Array Value, Array.foldl (fun cs (x : Value × Nat) => cs.setIfInBounds x.2 x.1) z t.toArray.zipIdx 0 791 = r ∧ r.size = 793 ∧ (r.toList.set 791 v).set 792 m = t ++ [v, m] := by
  obtain ⟨g1, g2⟩ := foldl_set 0 t 0 z
  have e1 : (Array.foldl (fun cs (x : Value × Nat) => cs.setIfInBounds x.2 x.1) z t.toArray.zipIdx 0 791) = ((t.zipIdx 0).foldl (fun cs (x : Value × Nat) => cs.setIfInBounds (0 + x.2) x.1) z) := by
    have : (791 : Nat) = t.toArray.zipIdx.size := by simp [ht]
    rw [this, ← Array.foldl_toList, Array.toList_zipIdx]
    simp
  refine ⟨_, rfl, by rw [e1, g1, hz], ?_⟩
  rw [e1]
  generalize hr : (t.zipIdx 0).foldl (fun cs (x : Value × Nat) => cs.setIfInBounds (0 + x.2) x.1) z = r at *
  apply List.ext_getElem?
  intro k
  have hk := g2 k
  simp only [Nat.zero_add] at hk
  rw [List.getElem?_set, List.getElem?_set]
  simp only [List.length_set, Array.length_toList, g1, hz]
  have hrk : r.toList[k]? = r[k]? := by simp
  by_cases h1 : k < 791
  · rw [if_pos (by omega)] at hk
    rw [if_neg (by omega), if_neg (by omega), hrk, hk, List.getElem?_append_left (by omega)]; simp
  · rw [if_neg (by omega)] at hk
    by_cases h2 : k = 791
    · subst h2
      rw [if_neg (by omega), if_pos rfl, if_pos (by omega), List.getElem?_append_right (by omega), ht]; rfl
    · by_cases h3 : k = 792
      · subst h3
        rw [if_pos rfl, if_pos (by omega), List.getElem?_append_right (by omega), ht]; rfl
      · rw [if_neg (by omega), if_neg (by omega), hrk, hk, Array.getElem?_eq_none (by omega), List.getElem?_append_right (by omega), List.getElem?_eq_none (by simp; omega)]

/-- The checker laid in a block of its own. -/
structure LaidC (zs : Array Value) (tw : World → World) (v m : Value) (tc r : Array Value) : Prop where
  zero : ∀ w, (zeroValue 67).run Try.prog w = .ok (.agg zs) w
  size : zs.size = 793
  fold : Array.foldl (fun cs (x : Value × Nat) => cs.setIfInBounds x.2 x.1) zs tc.zipIdx 0 791 = r
  rsize : r.size = 793
  store : ∀ w, (storeCells ⟨w.heap.size, 0, none⟩ ((r.toList.set 791 v).set 792 m)).run Try.prog (w.alloc (.cells zs 67)) = .ok () (tw w)
  whole : ∀ w, Whole (tw w) w.heap.size 67 (ckCells v m)
  keeps : ∀ w, Keeps [] w (tw w)

set_option maxRecDepth 100000 in
theorem checker_laid (v m : Value) (hv : v.oneCell' = true) (hm : m.oneCell' = true) : ∃ (zs : Array Value) (tw : World → World) (r : Array Value), LaidC zs tw v m (cellsP tabL).toArray r := by
  obtain ⟨zs, hzs, hz⟩ := zeroChecker
  have hl := ckCells_length v m
  obtain ⟨r, hr1, hr2, hr3⟩ := set_three (z := zs) (t := cellsP tabL) (v := v) (m := m) hzs (by rw [cellsP_length, tabL_length])
  refine ⟨zs, fun w => (w.alloc (.cells zs 67)).setRow w.heap.size (ckCells v m).toArray, r, hz, hzs, hr1, hr2, ?_, ?_, ?_⟩
  · intro w
    have h := run_storeCells_from (P := Try.prog) w.heap.size 67 (ckCells v m) 0 zs (w.alloc (.cells zs 67)) (heap_alloc_new w _) (by rw [hl, hzs]) (by
      intro u hu
      rcases List.mem_append.1 hu with hu | hu
      · exact cellsP_one tabL u hu
      · simp at hu; rcases hu with rfl | rfl <;> assumption)
    rw [hr3]
    unfold ckCells at h
    simpa [ckCells] using h
  · intro w
    have hw : Whole (w.alloc (.cells zs 67)) w.heap.size 67 zs.toList := by
      have := Whole.new w 67 zs.toList
      simpa using this
    exact hw.setRow (ckCells v m)
  · intro w
    exact (Keeps.alloc [] w _).then (Keeps.setRow (S := [w.heap.size]) _ (by simp) _) (fun x hx => .inr (by simp at hx; omega))

set_option maxRecDepth 100000 in
set_option maxHeartbeats 4000000 in
theorem Check_any (w : World) (v : Value) (l : List Wd) (h : WordsIn w (fun k => k < w.heap.size) v l) (hl : l.length ≤ 1000000) (r : Int) (hr : checkL l = r) :
    Calls Try.prog 16 #[v] w fun e w' => e = .returned (.int .i64 r) ∧ Keeps [] w w' := by
  obtain ⟨a, cap, rfl, hcap, hml⟩ := h.shape
  obtain ⟨n, hn⟩ : ∃ n, n = l.length := ⟨_, rfl⟩
  have HN := Lib.hid hn
  have HW := Lib.hid h
  have HR := Lib.hid hr
  have HP := Lib.hid prims_any
  unfold tabV at HP
  have HLC := Lib.hid fun mb => checker_laid (.slice a l.length cap) (.map (some mb)) rfl rfl
  have htc : (cellsP tabL).toArray.size = 791 := by rw [List.size_toArray, cellsP_length, tabL_length]
  simp only [← hn] at hcap hml HLC hl ⊢
  generalize (cellsP tabL).toArray = tc at *
  have hmm := @run_makeMap Try.prog
  clear h hr hn
  go_enter Try.func16, Try.ntmps16
  go_wp2_with (go_at_call 32; refine (HP.out _).mono ?_; rintro e w3 ⟨rfl, hk3⟩; have HK3 := Lib.hid hk3; obtain ⟨zs, tw, r9, hL⟩ := HLC.out w3.heap.size; have hz := hL.zero; have hs := hL.size; have hf := hL.fold; have hrs := hL.rsize; have hst := hL.store (w3.alloc (.map #[] 0)); simp only [World.size_alloc] at hst; have HL := Lib.hid hL; clear hk3 hL)
  generalize hV : tw (w3.alloc (.map #[] 0)) = V at *
  have hWV : Whole V (w3.heap.size + 1) 67 (ckCells (.slice a n cap) (.map (some w3.heap.size))) := by
    have := HL.out.whole (w3.alloc (.map #[] 0))
    rw [hV, World.size_alloc] at this; exact this
  have hKV : Keeps [] (w3.alloc (.map #[] 0)) V := by rw [← hV]; exact HL.out.keeps _
  have hKwV : Keeps [] w V := (HK3.out.trans (Keeps.alloc [] _ _)).trans hKV
  have hck : Ck V (w3.heap.size + 1) w3.heap.size l (.slice a n cap) 0 := by
    refine ⟨hWV, ?_, (OthersAt.made w3 l).keeps hKV (by simp), by omega⟩
    rw [HN.out]
    exact (HW.out.next hKwV).imp (fun k _ hk => by have := HK3.out.size; omega)
  have HKW := Lib.hid hKwV
  have HCK := Lib.hid hck
  clear hV hWV hKV hKwV hck hz hs hf hrs hst HL
  have HZ := Lib.hid HK3.out.size
  go_loopw [11] (fun x wr => ∃ k : Nat, k ≤ n ∧ x = .int .i64 (k : Int) ∧ (∀ j, j < k → rightAt l j = true) ∧ Ck wr (w3.heap.size + 1) w3.heap.size l (.slice a n cap) (1001 * k) ∧ Keeps [w3.heap.size] V wr) (fun x _ => n - (intOf x).toNat)
  case atStart => exact ⟨0, by omega, rfl, fun j hj => by omega, HCK.out, Keeps.refl _ _⟩
  case round =>
    obtain ⟨k, hk, rfl, hall, hck, hkr⟩ := hrel
    have HALL := Lib.hid hall
    have hfin : Keeps [] w wr := HKW.out.then hkr (fun x hx => .inr (by have := HZ.out; simp at hx; omega))
    have HFIN := Lib.hid hfin
    have HKR := Lib.hid hkr
    by_cases hlt : k < n
    · have hlt' : (k : Int) < (n : Int) := by omega
      have HRT := Lib.hid (right_any wr (w3.heap.size + 1) w3.heap.size l _ (1001 * k) k hck (by have := HN.out; omega) (by have := HN.out; omega) (by omega) (fun j hj => by
        have h1 := hall j hj
        unfold rightAt at h1
        simp only [Bool.and_eq_true] at h1
        exact (right_bounds h1.1).2.2.2))
      cases hq : rightAt l k with
      | false =>
        rw [hq] at HRT
        have HE := Lib.hid (show r = (k : Int) by rw [← HR.out]; exact firstBad_at hall hq (by have := HN.out; omega))
        clear hall hck hkr hfin hq
        go_wp2_with (go_at_call 37; refine HRT.out.mono ?_; rintro e w7 ⟨rfl, hck7, hk7⟩; have HCK7 := Lib.hid hck7; have HK7 := Lib.hid hk7; clear hck7 hk7)
        go_ret
        exact ⟨by rw [HE.out]; rfl, HFIN.out.then HK7.out (fun x hx => .inr (by have := HZ.out; simp at hx; omega))⟩
      | true =>
        rw [hq] at HRT
        have HQ := Lib.hid hq
        clear hall hck hkr hfin hq
        go_wp2_with (go_at_call 37; refine HRT.out.mono ?_; rintro e w7 ⟨rfl, hck7, hk7⟩; have HCK7 := Lib.hid hck7; have HK7 := Lib.hid hk7; clear hck7 hk7)
        go_roundw
        case rel => exact ⟨k + 1, by omega, by go_num, fun j hj => by
          by_cases he : j = k
          · subst he; exact HQ.out
          · exact HALL.out j (by omega), HCK7.out.mono (by omega), HKR.out.trans HK7.out⟩
        case measure => simp [intOf]; omega
    · obtain rfl : k = n := by omega
      have hlt' : ¬ (k : Int) < (k : Int) := by omega
      have HE := Lib.hid (show r = -1 by rw [← HR.out]; exact firstBad_all (fun j hj => hall j (by have := HN.out; omega)))
      clear hall hck hkr hfin
      go_wp2
      go_ret
      exact ⟨by rw [HE.out]; rfl, HFIN.out⟩
end Go.Proofs.Ytfnjjanknfmibaa
