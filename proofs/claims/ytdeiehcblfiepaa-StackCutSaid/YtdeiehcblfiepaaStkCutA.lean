/-
  StackCut, walked: two stacks side by side.
-/
import Derived.Test.YtdeiehcblfiepaaStkBackA
namespace Go.Proofs.Ytdeiehcblfiepaa
open Go.RowKit
set_option linter.unusedVariables false

/-- A stack without cells: its cells may come to lie wherever is room. -/
theorem StackAt.raise {w : World} {base g : Nat} {most over under : Int} (h : StackAt w base g most over under (.slice none 0 0) []) (b : Nat) (hb : b ≤ w.heap.size) (hg : g < b) : StackAt w b g most over under (.slice none 0 0) [] :=
  ⟨h.whole, ⟨by simp, .inl ⟨rfl, rfl⟩⟩, hg, hb, h.most1, h.most2, h.fits, h.over0, h.under0⟩

/-- Two stacks below H, apart. -/
def Two (w0 : World) (H : Nat) (w : World) (gs gt : Nat) (ls lt : List (BitVec 32)) : Prop :=
  Keeps [] w0 w ∧ w0.heap.size ≤ gs ∧ w0.heap.size ≤ gt ∧ gs < H ∧ gt < H ∧ H ≤ w.heap.size ∧ gs ≠ gt ∧
  ∃ bs vs bt vt, StackAt w bs gs 60 (-3) (-4) vs ls ∧ StackAt w bt gt 60 (-3) (-4) vt lt ∧
    (∀ k, vs.ownBlock = some k → k < H ∧ k ≠ gt ∧ vt.ownBlock ≠ some k) ∧ (∀ k, vt.ownBlock = some k → k < H ∧ k ≠ gs)

section
variable {w0 w : World} {H gs gt : Nat} {ls lt : List (BitVec 32)}

theorem Two.next (h : Two w0 H w gs gt ls lt) {w' : World} {S : List Nat} (hk : Keeps S w w') (hS : ∀ x ∈ S, H ≤ x) : Two w0 H w' gs gt ls lt := by
  obtain ⟨h0, g1, g2, l1, l2, hH, hne, bs, vs, bt, vt, hs, ht, ds, dt⟩ := h
  refine ⟨h0.then hk (fun x hx => .inr (by have := hS x hx; omega)), g1, g2, l1, l2, Nat.le_trans hH hk.size, hne, bs, vs, bt, vt, hs.keeps hk ?_ ?_, ht.keeps hk ?_ ?_, ds, dt⟩
  · intro hm; have := hS _ hm; omega
  · intro k hv hm; have := hS _ hm; have := (ds k hv).1; omega
  · intro hm; have := hS _ hm; omega
  · intro k hv hm; have := hS _ hm; have := (dt k hv).1; omega

theorem Two.kept (h : Two w0 H w gs gt ls lt) : Keeps [] w0 w := h.1
theorem Two.size (h : Two w0 H w gs gt ls lt) : H ≤ w.heap.size := h.2.2.2.2.2.1

theorem Cut_two (h : Two w0 H w gs gt ls lt) (k t : Int) (l' : List (BitVec 32)) (ht : cutT ls k (-4) = t) (hl : cutL ls k = l') :
    Calls Try.prog 20 #[.pointer (some ⟨gs, 0, none⟩), .int .i64 k] w fun e w' => e = .returned (.int .i32 t) ∧ Two w0 H w' gs gt l' lt := by
  obtain ⟨h0, g1, g2, l1, l2, hH, hne, bs, vs, bt, vt, hs, ht', ds, dt⟩ := h
  refine (Cut_at hs k).mono ?_
  rintro e w' ⟨v', rfl, h1, hk, ho⟩
  refine ⟨by rw [ht], h0.then hk (fun x hx => .inr ?_), g1, g2, l1, l2, Nat.le_trans hH hk.size, hne, bs, v', bt, vt, hl ▸ h1, ht'.keeps hk ?_ ?_, ?_, dt⟩
  · simp at hx
    rcases hx with rfl | hx
    · exact g1
    · have := (hs.lt x hx).1; have := hs.above; omega
  · intro hm
    simp at hm
    rcases hm with e | hm
    · exact hne e.symm
    · exact (ds _ hm).2.1 rfl
  · intro k hv hm
    simp at hm
    rcases hm with e | hm
    · exact (dt k hv).2 e
    · exact (ds k hm).2.2 hv
  · intro k hv; rw [ho] at hv; exact ds k hv

theorem Pop_two (h : Two w0 H w gs gt ls lt) (l' : List (BitVec 32)) (hl : lt.take (lt.length - 1) = l') :
    Calls Try.prog 15 #[.pointer (some ⟨gt, 0, none⟩)] w fun e w' => (∃ x t, e = .returned (.tuple #[x, t])) ∧ Two w0 H w' gs gt ls l' := by
  obtain ⟨h0, g1, g2, l1, l2, hH, hne, bs, vs, bt, vt, hs, ht', ds, dt⟩ := h
  refine (Pop_at ht').mono ?_
  rintro e w' ⟨v', rfl, h1, hk, ho⟩
  refine ⟨⟨_, _, rfl⟩, h0.then hk (fun x hx => .inr ?_), g1, g2, l1, l2, Nat.le_trans hH hk.size, hne, bs, vs, bt, v', hs.keeps hk ?_ ?_, hl ▸ h1, ?_, ?_⟩
  · simp at hx
    rcases hx with rfl | hx
    · exact g2
    · have := (ht'.lt x hx).1; have := ht'.above; omega
  · intro hm
    simp at hm
    rcases hm with e | hm
    · exact hne e
    · exact (dt _ hm).2 rfl
  · intro k hv hm
    simp at hm
    rcases hm with e | hm
    · exact (ds k hv).2.1 e
    · exact (ds k hv).2.2 hm
  · intro k hv; rw [ho]; exact ds k hv
  · intro k hv; rw [ho] at hv; exact dt k hv

/-- All of the first one: a row of its own. -/
theorem AllS_two (h : Two w0 H w gs gt ls lt) :
    Calls Try.prog 23 #[.pointer (some ⟨gs, 0, none⟩)] w fun e w' => ∃ a c M, e = .returned (.slice a ls.length c) ∧ UReads w' (.slice a ls.length c) ls M 0 ∧ (ls ≠ [] → H ≤ M ∧ a = some ⟨M, 0, none⟩ ∧ Row w' M 40 (ls.map uv) c) ∧ Keeps [] w w' ∧ Two w0 H w' gs gt ls lt := by
  have h' := h
  obtain ⟨h0, g1, g2, l1, l2, hH, hne, bs, vs, bt, vt, hs, ht', ds, dt⟩ := h
  refine (All_at hs).mono ?_
  rintro e w' ⟨u, rfl, ho, hk⟩
  obtain ⟨M, hr, hM⟩ := UReads.owns ho
  obtain ⟨a, c, rfl, _⟩ := hr.shape
  refine ⟨a, c, M, rfl, hr, fun hl => ?_, hk, h'.next hk (by simp)⟩
  obtain ⟨e1, e2, _⟩ := hM hl
  obtain ⟨c', e3, _⟩ := hr.cells hl
  injection e3 with e3 _ e4
  subst e3
  exact ⟨by omega, rfl, Row.ofOwnsAt ho⟩

/-- All of the second one. -/
theorem AllT_two (h : Two w0 H w gs gt ls lt) :
    Calls Try.prog 23 #[.pointer (some ⟨gt, 0, none⟩)] w fun e w' => ∃ a c M, e = .returned (.slice a lt.length c) ∧ UReads w' (.slice a lt.length c) lt M 0 ∧ Keeps [] w w' ∧ Two w0 H w' gs gt ls lt := by
  have h' := h
  obtain ⟨h0, g1, g2, l1, l2, hH, hne, bs, vs, bt, vt, hs, ht', ds, dt⟩ := h
  refine (All_at ht').mono ?_
  rintro e w' ⟨u, rfl, ho, hk⟩
  obtain ⟨M, hr, hM⟩ := UReads.owns ho
  obtain ⟨a, c, rfl, _⟩ := hr.shape
  exact ⟨a, c, M, rfl, hr, hk, h'.next hk (by simp)⟩

theorem Two.made {w1 w2 : World} (h0 : Keeps [] w0 w1) (g1 : w0.heap.size ≤ gs) (g2 : w1.heap.size ≤ gt) {base : Nat} (hs : StackAt w1 base gs 60 (-3) (-4) (.slice none 0 0) []) (hk : Keeps [] w1 w2)
    {base2 : Nat} (ht : StackAt w2 base2 gt 60 (-3) (-4) (.slice none 0 0) []) : Keeps [] w0 w2 ∧ StackAt w2 w2.heap.size gs 60 (-3) (-4) (.slice none 0 0) [] ∧ StackAt w2 base2 gt 60 (-3) (-4) (.slice none 0 0) [] ∧ gs < gt ∧ gt < w2.heap.size := by
  have l1 := hs.whole.lt
  have l2 := ht.whole.lt
  exact ⟨h0.trans hk, (hs.keeps hk (by simp) (by simp)).raise _ (Nat.le_refl _) (by have := hk.size; omega), ht, by omega, l2⟩
end

set_option maxRecDepth 100000 in
set_option maxHeartbeats 8000000 in
theorem StackCut_any (w : World) (v : Value) (l : List (BitVec 32)) (M o : Nat) (h : UReads w v l M o) (hl : l.length ≤ maxLen) (t : Nat) (ht : t < 256) :
    Calls Try.prog 7 #[v, .int .u8 t] w fun e w' => e = .returned (.bool true) ∧ Keeps [] w w' := by
  have hml : maxLen = 9223372036854775807 := rfl
  by_cases hn : 60 < l.length
  · obtain ⟨a, cap, rfl, hcap⟩ := h.shape
    clear h
    generalize l.length = n at *
    have h60 : (60 : Int) < n := by omega
    go_enter Try.func7, Try.ntmps7
    go_wp2_with (go_at_call 12; refine (awake8_any _).mono ?_; rintro e w3 ⟨rfl, hk⟩; have HK := Lib.hid hk; clear hk)
    go_ret
    exact ⟨rfl, HK.out⟩
  · have HH := Lib.hid h
    obtain ⟨a, cap, rfl, hcap⟩ := h.shape
    obtain ⟨n, hN⟩ : ∃ n, n = l.length := ⟨_, rfl⟩
    rw [← hN] at hcap hl
    obtain ⟨n1, hn1⟩ : ∃ n1, n1 = n + 1 := ⟨_, rfl⟩
    obtain ⟨k, hk⟩ : ∃ k, k = t % n1 := ⟨_, rfl⟩
    have bn : n ≤ 60 := by omega
    have bk : k ≤ n := by have := Nat.mod_lt t (show 0 < n1 by omega); omega
    have eN : (n : Int) + 1 = (n1 : Int) := by omega
    have eK : (t : Int) % (n1 : Int) = (k : Int) := by rw [hk]; simp
    have bn1 : n1 ≤ 61 ∧ 1 ≤ n1 := by omega
    obtain ⟨bn1, bn2⟩ := bn1
    have hcut := fun w => run_cutU_h w a n cap k (by omega)
    have hhd := h.head k (by omega)
    have hlk : (l.take k).length = k := by simp; omega
    rw [hlk] at hhd
    rw [hhd.1] at hcut
    have HHK := Lib.hid hhd.2
    have HLK := Lib.hid hlk
    have HL := Lib.hid hN.symm
    have hz2 : ¬ (60 : Int) < n := by omega
    rw [← hN]
    obtain ⟨k1, hk1⟩ : ∃ k1, k1 = k + 1 := ⟨_, rfl⟩
    have eK1 : (k : Int) + 1 = (k1 : Int) := by omega
    have HK1 := Lib.hid hk1
    obtain ⟨r, hr⟩ : ∃ r, r = n - k := ⟨_, rfl⟩
    have eR : (n : Int) - (k : Int) = (r : Int) := by omega
    have HR := Lib.hid (show r = n - k ∧ n1 = n + 1 from ⟨hr, hn1⟩)
    have br : r ≤ 60 := by omega
    have bk1 : k1 ≤ 61 := by omega
    clear h hhd hlk hN hn hk hk1 hr hn1
    go_enter Try.func7, Try.ntmps7
    go_upto_region 4 with (go_at_call 9; refine (StNew_ok _ 60 (-3) (-4) (by decide) (by decide) (by decide) (by decide) (by decide) (by decide)).mono ?_; rintro e w1 ⟨gs, rfl, hs, hgs, hk1⟩; have HS := Lib.hid hs; have KS := Lib.hid hk1; clear hs hk1)
    go_upto_region 5 with (go_at_call 9; refine (StNew_ok _ 60 (-3) (-4) (by decide) (by decide) (by decide) (by decide) (by decide) (by decide)).mono ?_; rintro e w2 ⟨gt, rfl, ht, hgt, hk2⟩; have HT := Lib.hid ht; have KT := Lib.hid hk2; clear ht hk2)
    obtain ⟨k02, hs2, ht2, hlt, hgt2⟩ := Two.made (w0 := w) KS.out hgs hgt HS.out KT.out HT.out
    have K02 := Lib.hid k02
    have HP := Lib.hid (Push_at hs2 _ l M o (HH.out.keeps k02 (by simp)) (by rw [HL.out]; exact hl))
    rw [show pushT 60 (-3) [] l = 0 by unfold pushT; rw [HL.out, if_pos (by simp; omega)], show pushL 60 [] l = l by unfold pushL; rw [HL.out, if_pos (by simp; omega)]; simp, HL.out] at HP
    have HT2 := Lib.hid ht2
    have HS2 := Lib.hid hs2
    clear k02 ht2 hs2 HS HT KS KT
    go_upto_region 7 with (first
      | (go_at_call_of 13 (Value.pointer (some ⟨gs, 0, none⟩))
         refine HP.out.mono ?_
         rintro e w3 ⟨v3, rfl, hs3, hk3⟩
         have HS3 := Lib.hid hs3
         have hgn : gt ∉ gs :: (Value.slice none 0 0).ownBlock.toList := by simp [Value.ownBlock]; omega
         have ht3 := (HT2.out.keeps hk3 hgn (by simp [Value.ownBlock])).raise w3.heap.size (Nat.le_refl _) (by have := hk3.size; omega)
         have HT3 := Lib.hid ht3
         have K03 := Lib.hid (K02.out.then hk3 (fun x hx => .inr (by simp [Value.ownBlock] at hx; omega)))
         have HP2 := Lib.hid (Push_at ht3 _ l M o (HH.out.keeps K03.out (by simp)) (by rw [HL.out]; exact hl))
         rw [show pushT 60 (-3) [] l = 0 by unfold pushT; rw [HL.out, if_pos (by simp; omega)], show pushL 60 [] l = l by unfold pushL; rw [HL.out, if_pos (by simp; omega)]; simp, HL.out] at HP2
         clear hs3 hk3 ht3 hgn)
      | (go_at_call_of 13 (Value.pointer (some ⟨gt, 0, none⟩))
         refine HP2.out.mono ?_
         rintro e w4 ⟨v4, rfl, ht4, hk4⟩
         have HT4 := Lib.hid ht4
         have HTW := Lib.hid (show Two w w4.heap.size w4 gs gt l l from by
           have hgn : gs ∉ gt :: (Value.slice none 0 0).ownBlock.toList := by simp [Value.ownBlock]; omega
           have hvn : ∀ k, v3.ownBlock = some k → k ∉ gt :: (Value.slice none 0 0).ownBlock.toList := by
             intro k hk hm
             simp [Value.ownBlock] at hm
             have := (HS3.out.lt k hk).1
             omega
           have hs4 := HS3.out.keeps hk4 hgn hvn
           have sz := hk4.size
           refine ⟨K03.out.then hk4 (fun x hx => .inr (by simp [Value.ownBlock] at hx; omega)), hgs, by omega, hs4.whole.lt, ht4.whole.lt, Nat.le_refl _, by omega, _, v3, _, v4, hs4, ht4, ?_, ?_⟩
           · intro k hk
             have q1 := HS3.out.lt k hk
             refine ⟨by omega, by omega, fun hv => ?_⟩
             have := (ht4.lt k hv).1
             omega
           · intro k hk
             have q1 := ht4.lt k hk
             have := HS3.out.whole.lt
             exact ⟨q1.2, by omega⟩)
         clear ht4 hk4))
    clear HP HP2 HS2 HS3 HT2 HT3 HT4 K02 K03
    obtain ⟨H, hH⟩ : ∃ H, H = w4.heap.size := ⟨_, rfl⟩
    rw [← hH] at HTW
    clear hH
    go_upto_region 9 with (go_at_call 23; refine (AllS_two HTW.out).mono ?_; rintro e w5 ⟨a2, c2, M2, rfl, _, hrow, hk5, h5⟩; rw [HL.out]; have HROW := Lib.hid hrow; have HT5 := Lib.hid h5; clear hrow h5 hk5)
    clear HTW
    go_upto_region 10 with fail
    go_loopw [11, 52] (fun _ i wr => ∃ j : Nat, j ≤ n ∧ i = .int .i64 j ∧ Hid (Two w H wr gs gt l l) ∧ Hid (l ≠ [] → ∃ xs : List Value, xs.length = n ∧ Row wr M2 40 xs c2 ∧ ∀ v ∈ xs, ∃ y, v = Value.int .u32 y)) (fun _ i _ => n - (intOf i).toNat)
    case atStart => exact ⟨0, by omega, rfl, HT5, Lib.hid (fun hl => ⟨l.map uv, by simp; exact HL.out, (HROW.out hl).2.2, fun v hv => by obtain ⟨c, _, rfl⟩ := List.mem_map.1 hv; exact ⟨_, rfl⟩⟩)⟩
    case round =>
      obtain ⟨j, hj, rfl, hm, hx⟩ := hrel
      clear HT5
      by_cases hlt : j < n
      · have hji : (j : Int) < n := by omega
        have hln : l ≠ [] := by intro e; have := HL.out; simp [e] at this; omega
        obtain ⟨xs, hxl, hrow, hxy⟩ := hx.out hln
        obtain ⟨hM, ha2, _⟩ := HROW.out hln
        obtain ⟨y, hy⟩ := hxy (xs[j]'(by omega)) (List.getElem_mem _)
        have q := hrow.cell j (v := .int .u32 y) (by rw [← hy]; exact List.getElem?_eq_getElem (by omega))
        have f := hrow.frozen j
        have HX := Lib.hid hxl
        have HW := Lib.hid hrow
        have HY := Lib.hid hxy
        have HM := Lib.hid hM
        clear hxl hrow hxy hM hy hx hln
        subst ha2
        go_wp2
        go_roundw
        case rel =>
          refine ⟨j + 1, by omega, by go_num, Lib.hid (hm.out.next (Keeps.setCell (S := [M2]) _ (by simp) _) (by intro x hx; simp at hx; have := HM.out; omega)), Lib.hid (fun _ => ⟨_, ?_, HW.out.set j _, ?_⟩)⟩
          · simp; exact HX.out
          · intro v hv
            rcases List.mem_or_eq_of_mem_set hv with hv | rfl
            · exact HY.out v hv
            · exact ⟨_, rfl⟩
        case measure => simp [intOf]; omega
      · obtain rfl : j = n := by omega
        clear hx HROW
        have HC := Lib.hid (Cut_two hm.out k 0 (l.take k) (by unfold cutT; rw [HL.out, if_pos (by omega)]) (by unfold cutL; rw [HL.out, if_pos (by omega), Int.toNat_natCast]))
        clear hm
        go_upto_region 16 with (first
          | (go_at_call 20; refine (Cut_two HT7.out (-1) (-4) (l.take k) (by unfold cutT; rw [if_neg (by omega)]) (by unfold cutL; rw [if_neg (by omega)])).mono ?_; rintro e w8 ⟨rfl, h8⟩; have HT8 := Lib.hid h8; clear h8)
          | (go_at_call_of 20 (Value.int .i64 (k1 : Int)); refine (Cut_two HT6.out k1 (-4) (l.take k) (by unfold cutT; rw [HLK.out, if_neg (by have := HK1.out; omega)]) (by unfold cutL; rw [HLK.out, if_neg (by have := HK1.out; omega)])).mono ?_; rintro e w7 ⟨rfl, h7⟩; have HT7 := Lib.hid h7; clear h7)
          | (go_at_call_of 20 (Value.int .i64 (k : Int)); refine HC.out.mono ?_; rintro e w6 ⟨rfl, h6⟩; have HT6 := Lib.hid h6; clear h6))
        clear HC HT6 HT7
        go_upto_region 17 with fail
        go_loopw [82] (fun iv wr2 => ∃ j2 : Nat, j2 ≤ r ∧ iv = .int .i64 j2 ∧ Hid (Two w H wr2 gs gt (l.take k) (l.take (j - j2)))) (fun iv _ => r - (intOf iv).toNat)
        case atStart => exact ⟨0, by omega, rfl, by rw [Nat.sub_zero, show l.take j = l from List.take_of_length_le (by have := HL.out; omega)]; exact HT8⟩
        case round =>
          obtain ⟨j2, hj2, rfl, hm⟩ := hrel
          clear HT8
          by_cases hlt : j2 < r
          · have hji : (j2 : Int) < r := by omega
            have HP := Lib.hid (Pop_two hm.out (l.take (j - (j2 + 1))) (by
              rw [List.length_take, HL.out, List.take_take]; congr 1; have := HR.out; omega))
            go_wp2_with (go_at_call 15; refine HP.out.mono ?_; rintro e w9 ⟨⟨x9, t9, rfl⟩, h9⟩; have HM := Lib.hid h9; clear h9)
            go_roundw
            case rel => exact ⟨j2 + 1, by omega, by go_num, HM⟩
            case measure => simp [intOf]; omega
          · obtain rfl : j2 = r := by omega
            have HT9 := Lib.hid (show Two w H wr gs gt (l.take k) (l.take k) from by
              have := hm.out
              rwa [show j - j2 = k by have := HR.out; omega] at this)
            clear hm
            go_upto_region 20 with fail
            have HR2 := Lib.hid ((HHK.out.keeps (HT9.out.kept) (by simp)))
            go_region_held3 (fun _ => True) (exact trivial)
              (first
                | (go_at_call 12; refine (awake8_any _).mono ?_; rintro e w15 ⟨rfl, hk⟩; have KE := Lib.hid (HT14.out.kept.trans hk); clear hk)
                | (go_at_call 22; refine (cells_to _ _ _ (l.take k) (l.take k) M13 0 M o HU13.out (HHK.out.keeps HT13.out.kept (by simp)) (by rw [HLK.out]; omega) true (by simp)).mono ?_; rintro e w14 ⟨rfl, hk⟩; have HT14 := Lib.hid (HT13.out.next hk (by simp)); clear hk)
                | (go_at_call 23; refine (AllS_two HT12.out).mono ?_; rintro e w13 ⟨a13, c13, M13, rfl, hu, _, hk, h13⟩; rw [HLK.out] at hu ⊢; have HT13 := Lib.hid h13; have HU13 := Lib.hid hu; clear hu hk h13)
                | (go_at_call 22; refine (cells_to _ _ _ (l.take k) (l.take k) M10 0 M11 0 HU10.out HU11.out (by rw [HLK.out]; omega) true (by simp)).mono ?_; rintro e w12 ⟨rfl, hk⟩; have HT12 := Lib.hid (HT11.out.next hk (by simp)); clear hk)
                | (go_at_call 23; refine (AllT_two HT10.out).mono ?_; rintro e w11 ⟨a11, c11, M11, rfl, hu, hk, h11⟩; rw [HLK.out] at hu ⊢; have HT11 := Lib.hid h11; have HU11 := Lib.hid hu; have HU10 := Lib.hid (HU10.out.keeps hk (by simp)); clear hu hk h11)
                | (go_at_call 23; refine (AllS_two (HT9.out.next (Keeps.drew [] _) (by simp))).mono ?_; rintro e w10 ⟨a10, c10, M10, rfl, hu, _, hk, h10⟩; rw [HLK.out] at hu ⊢; have HT10 := Lib.hid h10; have HU10 := Lib.hid hu; clear hu hk h10))
            go_wp2
            go_ret
            exact ⟨rfl, KE.out⟩

theorem StackCut_all (w : World) (v : Value) (l : List (BitVec 32)) (M o : Nat) (h : UReads w v l M o) (hl : l.length ≤ maxLen) (t : Int) (ht : 0 ≤ t ∧ t ≤ 255) :
    Calls Try.prog 7 #[v, .int .u8 t] w fun e w' => e = .returned (.bool true) ∧ Keeps [] w w' := by
  obtain ⟨m, rfl⟩ := Int.eq_ofNat_of_zero_le ht.1
  exact StackCut_any w v l M o h hl m (by omega)
end Go.Proofs.Ytdeiehcblfiepaa
