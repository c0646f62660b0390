/-
  Stacks of cells: Pop, All, Push, New.
-/
import Derived.Test.YtfnjjanknfmibaaGreatStkB
namespace Go.Proofs.YtfnjjanknfmibaaGreat
open Go.RowKit
set_option linter.unusedVariables false

section
variable {w : World} {base g : Nat} {most over under : Int} {v : Value} {l : List (BitVec 32)}

set_option maxRecDepth 100000 in
set_option maxHeartbeats 1000000 in
theorem Pop_at (h : StackAt w base g most over under v l) :
    Calls Tryz.prog 88 #[.pointer (some ⟨g, 0, none⟩)] w fun e w' => ∃ v', e = .returned (.tuple #[uv (peekX l 0), .int .i32 (peekT l 0 under)]) ∧ StackAt w' base g most over under v' (l.take (l.length - 1)) ∧ Keeps (g :: v.ownBlock.toList) w w' ∧ v'.ownBlock = v.ownBlock := by
  unfold peekX peekT
  have H := Lib.hid h
  by_cases hi : 0 < l.length
  · have hi' : (0 : Int) ≤ 0 ∧ (0 : Int) < l.length := ⟨by omega, by omega⟩
    rw [if_pos hi', if_pos hi']
    have HP := Lib.hid (place_in h 0 hi)
    have c1 := h.cell 1 _ rfl
    have hf := h.fits
    have hm := h.most2
    obtain ⟨b, cap, rfl, hcap, hcell⟩ := h.get (l.length - 1) (by omega)
    have HF := Lib.hid (show w.ownsRow base 24 1 (.slice (some ⟨b, 0, none⟩) (l.length - 1) cap) (l.take (l.length - 1)).length ((l.take (l.length - 1)).map uv) from by
      have hlt : (l.take (l.length - 1)).length = l.length - 1 := by simp
      rw [hlt, List.map_take]
      exact owns_take h.row _ (by omega))
    rw [Nat.sub_zero] at HP
    rw [show (0 : Int).toNat = 0 from rfl, Nat.sub_zero]
    have hcut := fun w => run_cutU_h w (some ⟨b, 0, none⟩) l.length cap (l.length - 1) (by omega)
    have hs : sliced (some ⟨b, 0, none⟩) 0 (l.length - 1) cap 1 = .slice (some ⟨b, 0, none⟩) (l.length - 1) cap := by
      simp [sliced, Addr.add]
    rw [hs] at hcut
    have hlt : l.length - 1 < l.length := by omega
    have hfr : w.frozen? ⟨g, 1, none⟩ = false := H.out.whole.frozen 1
    clear h hs hi'
    generalize hx : l.getD (l.length - 1) 0#32 = x at *
    generalize hp : l.length - 1 = p at *
    generalize hn : l.length = n at *
    unfold uv at *
    generalize (x.toNat : Int) = y at *
    go_enter Tryz.func88, Tryz.ntmps88
    go_wp2_with (first | (go_at_call 111; refine HP.out.mono ?_; rintro e w' ⟨rfl, rfl⟩))
    go_ret2
    obtain ⟨h1, h2⟩ := H.out.put _ (l' := l.take p) (Keeps.refl _ _) HF.out (by simp; omega)
    exact ⟨_, rfl, h1, h2, rfl⟩
  · have hi' : ¬ ((0 : Int) ≤ 0 ∧ (0 : Int) < l.length) := by omega
    rw [if_neg hi', if_neg hi']
    have HP := Lib.hid (place_out h 0 hi')
    have hu := h.under0.2
    obtain rfl : l = [] := List.eq_nil_of_length_eq_zero (by omega)
    clear h hi' hi
    go_enter Tryz.func88, Tryz.ntmps88
    go_wp2_with (first | (go_at_call 111; refine HP.out.mono ?_; rintro e w' ⟨rfl, hk⟩; have HK := Lib.hid hk; clear hk))
    go_ret2
    exact ⟨_, rfl, H.out.keeps HK.out (by simp) (by simp), HK.out.mono (by simp), rfl⟩

set_option maxRecDepth 100000 in
set_option maxHeartbeats 1000000 in
theorem CloneU_any (w : World) (v : Value) (l : List (BitVec 32)) (M off : Nat) (h : UReads w v l M off) (hl : l.length ≤ 65536) :
    Calls Tryz.prog 16 #[v] w fun e w' => ∃ u, e = .returned u ∧ w'.ownsRow w.heap.size 24 1 u l.length (l.map uv) ∧ Keeps [] w w' := by
  rcases h with ⟨rfl, rfl⟩ | ⟨ad, cap, rfl, hcap, hb, hc⟩
  · have hne := fun w => Lib.run_eql_slice_nil (P := Tryz.prog) w 22 24 none 0 0 0 0 Tryz.underlying22
    go_enter Tryz.func16, Tryz.ntmps16
    go_wp2
    go_ret
    exact ⟨_, rfl, ⟨by simp, .inl ⟨rfl, rfl⟩⟩, Keeps.refl _ _⟩
  · have HB := Lib.hid (show UReads w (.slice (some ad) l.length cap) l M off from .inr ⟨ad, cap, rfl, hcap, hb, hc⟩)
    have HM := Lib.hid (show l ≠ [] → M ∉ ([] : List Nat) from by simp)
    clear hb hc
    have hne := fun w => Lib.run_eql_slice_nil (P := Tryz.prog) w 22 24 (some ad) l.length cap 0 0 Tryz.underlying22
    go_enter Tryz.func16, Tryz.ntmps16
    have HO := Lib.hid (show (w.alloc (.cells #[] 24)).ownsRow w.heap.size 24 1 (.slice (some ⟨w.heap.size, 0, none⟩) 0 0) ([] : List (BitVec 32)).length (([] : List (BitVec 32)).map uv) from Whole.owns (xs := []) (ys := []) (Whole.new w 24 []) (Nat.le_refl _) rfl rfl (by decide))
    have HB1 := Lib.hid (HB.out.keeps (Keeps.alloc [] w (.cells #[] 24)) (by simp))
    go_wp2_with (first | (at_builtin; refine wpList_append_u rfl _ _ rfl w.heap.size _ [] rfl HO.out _ l M off rfl HB1.out (by simp; omega) (by simp) ?_; intro v3 w3 hown3 hk3 hs3; have HO3 := Lib.hid hown3; have HK3 := Lib.hid hk3; clear hown3 hk3 hs3))
    go_ret
    exact ⟨_, rfl, HO3.out, (Keeps.alloc [] w (.cells #[] 24)).then HK3.out (fun x hx => .inr (by have hx' : x ∈ [w.heap.size] := hx; simp at hx'; omega))⟩

set_option maxRecDepth 100000 in
set_option maxHeartbeats 1000000 in
theorem All_at (h : StackAt w base g most over under v l) :
    Calls Tryz.prog 5 #[.pointer (some ⟨g, 0, none⟩)] w fun e w' => ∃ u, e = .returned u ∧ w'.ownsRow w.heap.size 24 1 u l.length (l.map uv) ∧ Keeps [] w w' := by
  have c0 := h.cell 0 _ rfl
  have c1 := h.cell 1 _ rfl
  have hf := h.fits
  have hm := h.most2
  obtain ⟨M, hr, _⟩ := UReads.owns h.row
  have HC := Lib.hid (CloneU_any w v l M 0 hr (by omega))
  obtain ⟨a, cap, rfl, _⟩ := h.shape
  clear h hr
  go_enter Tryz.func5, Tryz.ntmps5
  go_wp2_with (first | (go_at_call 15; refine (made_at _ _ c0).mono ?_; rintro e w' ⟨rfl, rfl⟩) | (go_at_call 16; refine HC.out.mono ?_; rintro e w1 ⟨u, rfl, ho, hk⟩; have HO := Lib.hid ho; have HK := Lib.hid hk; clear ho hk))
  go_ret
  exact ⟨_, rfl, HO.out, HK.out⟩

theorem mayT_push (hf : (l.length : Int) ≤ most) (n : Nat) : mayT most over under l 0 n = if (n : Int) ≤ most - l.length then 0 else over := by
  unfold mayT
  rw [show max (0 : Int) 0 = 0 from rfl, if_neg (by omega)]
  split <;> split <;> omega

set_option maxRecDepth 100000 in
set_option maxHeartbeats 1000000 in
theorem Push_new (h : StackAt w base g most over under v l) (xv : Value) (x : List (BitVec 32)) (M off : Nat) (hx : UReads w xv x M off) (hxl : x.length ≤ maxLen) :
    Calls Tryz.prog 14 #[.pointer (some ⟨g, 0, none⟩), xv] w fun e w' => ∃ v', e = .returned (.int .i32 (pushT most over l x)) ∧ StackAt w' base g most over under v' (pushL most l x) ∧ Keeps (g :: v.ownBlock.toList) w w' ∧ (v'.ownBlock = v.ownBlock ∨ ∀ k, v'.ownBlock = some k → w.heap.size ≤ k) := by
  have hml : maxLen = 9223372036854775807 := rfl
  have HM := Lib.hid (May_at h 0 (x.length : Int) (by omega) (by omega))
  have he : mayT most over under l 0 x.length = pushT most over l x := mayT_push h.fits _
  rw [he] at HM
  have H := Lib.hid h
  have HX := Lib.hid hx
  have c1 := h.cell 1 _ rfl
  have hf := h.fits
  have hm := h.most2
  have ho := h.over0.2
  obtain ⟨xa, xc, rfl, hxc⟩ := hx.shape
  clear hx he
  unfold pushT pushL at *
  by_cases hr : (x.length : Int) ≤ most - l.length
  · rw [if_pos hr] at HM ⊢
    rw [if_pos hr]
    obtain ⟨a, cap, rfl, _⟩ := h.shape
    clear h
    generalize hxn : x.length = xn at *
    go_enter Tryz.func14, Tryz.ntmps14
    go_upto_region 4 with (first | (go_at_call 21; refine HM.out.mono ?_; rintro e w1 ⟨rfl, hk⟩))
    have H1 := Lib.hid (H.out.keeps hk (by simp) (by simp))
    have HX1 := Lib.hid (HX.out.keeps hk (by simp))
    have HK := Lib.hid hk
    replace c1 := hk.cell c1 (by simp)
    have hfr : w1.frozen? ⟨g, 1, none⟩ = false := H1.out.whole.frozen 1
    clear hk
    go_wp2_with (first | (at_builtin; subst hxn; refine wpList_append_u rfl _ _ rfl base _ l rfl H1.out.row _ x M off rfl HX1.out (by omega) H1.out.base_le ?_; intro v3 w3 hown3 hk3 hs3; have HO3 := Lib.hid hown3; have HK3 := Lib.hid hk3; have HS3 := Lib.hid (show v3.ownBlock = (Value.slice a l.length cap).ownBlock ∨ ∀ k, v3.ownBlock = some k → w1.heap.size ≤ k from hs3); clear hs3; have hg3 : g ∉ (Value.slice a l.length cap).ownBlock.toList := (fun hm => by have := (H1.out.lt g (by simpa using hm)).1; have := H1.out.above; omega); replace c1 := hk3.cell c1 hg3; have hfr3 : w3.frozen? ⟨g, 1, none⟩ = false := (H1.out.whole.keeps hk3 hg3).frozen 1; obtain ⟨a3, c3, rfl⟩ := owns_shape2 hown3; clear hown3 hk3 hg3))
    go_ret
    obtain ⟨h1, h2⟩ := H1.out.put _ (l' := l ++ x) HK3.out HO3.out (by simp; omega)
    rw [List.length_append] at h1 h2
    have h3 := HS3.out
    rw [List.length_append] at h3
    have hsz := HK.out.size
    exact ⟨_, rfl, h1, (HK.out.mono (by simp)).trans h2, h3.imp id (fun h k hk => Nat.le_trans hsz (h k hk))⟩
  · rw [if_neg hr] at HM ⊢
    rw [if_neg hr]
    clear h
    generalize hxn : x.length = xn at *
    go_enter Tryz.func14, Tryz.ntmps14
    go_wp2_with (first | (go_at_call 21; refine HM.out.mono ?_; rintro e w1 ⟨rfl, hk⟩; have HK := Lib.hid hk; clear hk))
    go_ret
    exact ⟨_, rfl, H.out.keeps HK.out (by simp) (by simp), HK.out.mono (by simp), .inl rfl⟩

theorem Push_at (h : StackAt w base g most over under v l) (xv : Value) (x : List (BitVec 32)) (M off : Nat) (hx : UReads w xv x M off) (hxl : x.length ≤ maxLen) :
    Calls Tryz.prog 14 #[.pointer (some ⟨g, 0, none⟩), xv] w fun e w' => ∃ v', e = .returned (.int .i32 (pushT most over l x)) ∧ StackAt w' base g most over under v' (pushL most l x) ∧ Keeps (g :: v.ownBlock.toList) w w' :=
  (Push_new h xv x M off hx hxl).mono fun e w' ⟨v', h1, h2, h3, _⟩ => ⟨v', h1, h2, h3⟩

set_option maxRecDepth 100000 in
set_option maxHeartbeats 1000000 in
theorem StNew_ok (w : World) (most over under : Int) (m1 : 1 ≤ most) (m2 : most ≤ 4096) (o1 : -2147483648 ≤ over) (o2 : over < 0) (u1 : -2147483648 ≤ under) (u2 : under < 0) :
    Calls Tryz.prog 12 #[.int .i64 most, .int .i32 over, .int .i32 under] w fun e w' => ∃ g, e = .returned (.tuple #[.pointer (some ⟨g, 0, none⟩), .int .i64 0]) ∧ StackAt w' (g + 1) g most over under (.slice none 0 0) [] ∧ w.heap.size ≤ g ∧ Keeps [] w w' := by
  go_enter Tryz.func12, Tryz.ntmps12
  go_wp2
  go_ret2
  refine ⟨w.heap.size, rfl, ⟨?_, ⟨by simp, .inl ⟨rfl, rfl⟩⟩, by omega, ?_, m1, m2, by simp; omega, ⟨o1, o2⟩, ⟨u1, u2⟩⟩, Nat.le_refl _, ?_⟩
  · exact Whole.new w 52 [.pointer (some ⟨w.heap.size, 0, none⟩), .slice none 0 0, .int .i64 most, .int .i32 over, .int .i32 under]
  · simp
  · exact Keeps.alloc [] w _

set_option maxRecDepth 100000 in
set_option maxHeartbeats 1000000 in
theorem StNew_err (w : World) (most over under : Int) (h : ¬ (1 ≤ most ∧ most ≤ 4096 ∧ over < 0 ∧ under < 0)) :
    Calls Tryz.prog 12 #[.int .i64 most, .int .i32 over, .int .i32 under] w fun e w' => e = .returned (.tuple #[.pointer none, .int .i64 2]) ∧ w = w' := by
  by_cases h1 : most < 1
  · clear h
    go_enter Tryz.func12, Tryz.ntmps12
    go_wp2
    go_ret2
    exact ⟨rfl, rfl⟩
  by_cases h2 : 4096 < most
  · clear h
    go_enter Tryz.func12, Tryz.ntmps12
    go_wp2
    go_ret2
    exact ⟨rfl, rfl⟩
  by_cases h3 : 0 ≤ over
  · clear h
    go_enter Tryz.func12, Tryz.ntmps12
    go_wp2
    go_ret2
    exact ⟨rfl, rfl⟩
  have h4 : 0 ≤ under := by omega
  clear h
  go_enter Tryz.func12, Tryz.ntmps12
  go_wp2
  go_ret2
  exact ⟨rfl, rfl⟩
end
end Go.Proofs.YtfnjjanknfmibaaGreat
