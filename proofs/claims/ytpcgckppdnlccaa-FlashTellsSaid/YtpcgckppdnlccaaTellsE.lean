/-
  Contracts: the document's Arm, Read and New.
-/
import Derived.Test.YtpcgckppdnlccaaTellsD
namespace Go.Proofs.Ytpcgckppdnlccaa
open Go.RowKit Go.Deep

set_option maxHeartbeats 1000000 in
theorem RArm_no {R C W M : Nat} {s : FS} {ms : List UInt8} (w : World) (h : RefAt w R C W M s ms) (n : Int) (v : Value) (e : Int) (he : (if s.down then 12 else if n < 0 then 2 else 0) = e) (h0 : e ≠ 0) :
    Calls Try.prog 35 #[.pointer (some ⟨R, 0, none⟩), .int .i64 n, v] w fun e' w' => e' = .returned (.int .i64 e) ∧ w = w' := by
  obtain ⟨cc, cw, mv, c0, c1, c2, c3, c4, cf, rC, rW, rM⟩ := h.cells
  clear cf rC rW rM h c0 c1 c2 c3
  cases hd : s.down with
  | true =>
    rw [hd] at c4 he
    obtain rfl : 12 = e := by simpa using he
    clear hd h0
    go_enter Try.func35, Try.ntmps35
    go_wp2
    go_ret
    exact ⟨rfl, rfl⟩
  | false =>
    rw [hd] at c4 he
    by_cases hn : n < 0
    · obtain rfl : 2 = e := by simpa [hn] using he
      clear hd h0
      go_enter Try.func35, Try.ntmps35
      go_wp2
      go_ret
      exact ⟨rfl, rfl⟩
    · exact absurd (by simpa [hn] using he.symm) h0

theorem RefAt.armed {w w2 : World} {R C W M : Nat} {s : FS} {ms : List UInt8} (h : RefAt w R C W M s ms) (n : Int) (l : List UInt8) (hd : s.down = false) (hn0 : 0 ≤ n) (hn1 : n ≤ 9223372036854775807)
    (hk : Keeps [] (w.setCell ⟨R, 2, none⟩ (.int .i64 n)) w2) (M' cap : Nat) (hM : w.heap.size ≤ M') (hr : Row w2 M' 5 (l.map bv) cap) (hl : l.length ≤ 65536) :
    RefAt (w2.setCell ⟨R, 3, none⟩ (.slice (some ⟨M', 0, none⟩) l.length cap)) R C W M' (s.arm n l) l ∧ Keeps [R] w (w2.setCell ⟨R, 3, none⟩ (.slice (some ⟨M', 0, none⟩) l.length cap)) := by
  obtain ⟨cc, cw, mv, hR, hC, hW, _⟩ := h.here
  obtain ⟨lR, lC, lW⟩ := h.lt
  have k1 : Keeps [R] w (w.setCell ⟨R, 2, none⟩ (.int .i64 n)) := Keeps.setCell _ (by simp) _
  have k2 : Keeps [R] w2 (w2.setCell ⟨R, 3, none⟩ (.slice (some ⟨M', 0, none⟩) l.length cap)) := Keeps.setCell _ (by simp) _
  have k : Keeps [R] w (w2.setCell ⟨R, 3, none⟩ (.slice (some ⟨M', 0, none⟩) l.length cap)) := (k1.trans (hk.mono (by simp))).trans k2
  refine ⟨⟨h.nRC, h.nRW, h.nCW, ⟨by omega, by omega, by omega⟩, h.len, h.few, hn0, hn1, hl, fun _ => rfl, cc, cw, _, ?_, ?_, ?_, (hr.keeps k2 (by simp; omega)).reads⟩, k⟩
  · rw [heap_setCell_at _ _ _ _ _ _ _ (hk.obj (heap_setCell_at w R 2 _ _ _ _ hR) (by simp)), hd]; rfl
  · exact hC.keeps k (by simpa using h.nRC.symm)
  · exact hW.keeps k (by simpa using h.nRW.symm)

theorem owns_empty (w : World) : (w.alloc (.cells #[] 5)).ownsRow w.heap.size 5 1 (.slice (some ⟨w.heap.size, 0, none⟩) 0 0) 0 [] :=
  ⟨rfl, .inr ⟨w.heap.size, 0, #[], rfl, Nat.le_refl _, heap_alloc_new w _, Nat.le_refl _, Nat.zero_le _, rfl, rfl⟩⟩

set_option maxHeartbeats 1000000 in
theorem RArm_some {R C W M : Nat} {s : FS} {ms : List UInt8} (w : World) (h : RefAt w R C W M s ms) (n : Int) (hd : s.down = false) (hn0 : 0 ≤ n) (hn1 : n ≤ 9223372036854775807) (b cap : Nat) (l : List UInt8) (hR : Row w b 5 (l.map bv) cap) (hl : l.length ≤ 65536) (hbR : b ≠ R) :
    Calls Try.prog 35 #[.pointer (some ⟨R, 0, none⟩), .int .i64 n, .slice (some ⟨b, 0, none⟩) l.length cap] w
      fun e w' => e = .returned (.int .i64 0) ∧ ∃ M', w.heap.size ≤ M' ∧ RefAt w' R C W M' (s.arm n l) l ∧ Keeps [R] w w' := by
  obtain ⟨cc, cw, mv, c0, c1, c2, c3, c4, cf, rC, rW, rM⟩ := h.cells
  obtain ⟨i0, hi, hz0, hz1, hz2⟩ := info_parts infoByte
  rw [hd] at c4
  have f2 := cf 2
  have f3 := cf 3
  have hlt := h.lt
  have hRlt := hR.lt
  have HR := Lib.hid hR
  have HRef := Lib.hid h
  have HD := Lib.hid hd
  clear hd cf rC rW rM h hR
  go_enter Try.func35, Try.ntmps35
  have hsz : (w.setCell ⟨R, 2, none⟩ (.int .i64 n)).heap.size = w.heap.size := by simp [World.setCell]
  have hown := owns_empty (w.setCell ⟨R, 2, none⟩ (.int .i64 n))
  rw [hsz] at hown
  have HO := Lib.hid hown
  have HC := Lib.hid (show ∀ j u, (l.map bv)[j]? = some u → ((w.setCell ⟨R, 2, none⟩ (.int .i64 n)).alloc (.cells #[] 5)).cell? ((⟨b, 0, none⟩ : Addr).add j) = some u by
    intro j u hu
    rw [Addr.add_off, Nat.zero_add]
    exact ((Keeps.setCell (S := [R]) w (by simp) _).trans (Keeps.alloc [R] _ _)).cell (HR.out.cell j hu) (by simpa using hbR))
  have H3 := Lib.hid (show ((w.setCell ⟨R, 2, none⟩ (.int .i64 n)).alloc (.cells #[] 5)).cell? ⟨R, 3, none⟩ = some mv by
    obtain ⟨cc, cw, mv', hR, _⟩ := HRef.out.here
    have := (Keeps.alloc [] (w.setCell ⟨R, 2, none⟩ (.int .i64 n)) (.cells #[] 5)).obj (heap_setCell_at w R 2 (.int .i64 n) _ _ _ hR) (by simp)
    have c3' : w.cell? ⟨R, 3, none⟩ = some mv' := by simp [World.cell?, hR]
    rw [c3] at c3'
    cases c3'
    simp [World.cell?, this])
  clear hown
  go_wp2_with (at_builtin; refine wpList_append_own _ rfl _ _ 31 rfl w.heap.size 5 i0 (.int .u8 0) 1 1 Try.underlying31 hi hz0 hz1 hz2 rfl (by decide) (.slice (some ⟨w.heap.size, 0, none⟩) 0 0) 0 [] rfl HO.out ⟨b, 0, none⟩ l.length cap (l.map bv) rfl (by simp) HC.out (one_bytes l) ?c3 ?c4 ?c5 ?_)
  case c3 => unfold maxLen; omega
  case c4 => omega
  case c5 => simp [World.setCell]
  intro v' w2 hown2 hg2 hnil
  obtain ⟨b', c', rfl, hb', hR'⟩ := Row.ofOwns hown2 hnil
  have k2 : Keeps [] (w.setCell ⟨R, 2, none⟩ (.int .i64 n)) w2 :=
    (Keeps.alloc [] _ _).then (Keeps.grown (S := [w.heap.size]) hg2 (fun k hk => by simp [Value.ownBlock] at hk; simp [hk])) (fun x hx => .inr (by simp at hx; rw [hsz]; omega))
  obtain ⟨cc2, cw2, mv2, hobj, _⟩ := HRef.out.here
  have ho2 := k2.obj (heap_setCell_at w R 2 (.int .i64 n) _ _ _ hobj) (by simp)
  have p3 : w2.cell? ⟨R, 3, none⟩ = some mv2 := by simp [World.cell?, ho2]
  have g3 : w2.frozen? ⟨R, 3, none⟩ = false := by simp [World.frozen?, ho2]
  have HA := Lib.hid (HRef.out.armed n l HD.out hn0 hn1 k2 b' c' hb' hR' hl)
  clear hown2 hg2 hnil ho2 hobj k2 hR' HC HO H3
  go_wp2
  go_ret
  exact ⟨rfl, b', hb', HA.out.1, HA.out.2⟩

set_option maxHeartbeats 1000000 in
theorem RRead_no {R C W M : Nat} {s : FS} {ms : List UInt8} (w : World) (h : RefAt w R C W M s ms) (a n e : Int) (he : (if s.down then 12 else if s.has a n then 0 else 10) = e) (h0 : e ≠ 0) :
    Calls Try.prog 36 #[.pointer (some ⟨R, 0, none⟩), .int .i64 a, .int .i64 n] w fun e' w' => e' = .returned (.tuple #[.slice none 0 0, .int .i64 e]) ∧ w = w' := by
  obtain ⟨cc, cw, mv, c0, c1, c2, c3, c4, cf, rC, rW, rM⟩ := h.cells
  have hth := Rthere_any w h a n
  clear cf rC rW rM h c0 c1 c2 c3
  cases hd : s.down with
  | true =>
    rw [hd] at c4 he
    obtain rfl : 12 = e := by simpa using he
    clear hd h0 hth
    go_enter Try.func36, Try.ntmps36
    go_wp2
    go_ret2
    exact ⟨rfl, rfl⟩
  | false =>
    rw [hd] at c4 he
    by_cases hh : s.has a n
    · exact absurd (by simpa [hh] using he.symm) h0
    · obtain rfl : 10 = e := by simpa [hh] using he
      rw [decide_eq_false hh] at hth
      have HTH := Lib.hid hth
      clear hd h0 hth hh
      go_enter Try.func36, Try.ntmps36
      go_wp2_with (first | (go_at_call 52; refine HTH.out.mono ?_; rintro e w' ⟨rfl, rfl⟩) | fail)
      go_ret2
      exact ⟨rfl, rfl⟩

set_option maxHeartbeats 1000000 in
theorem RRead_some {R C W M : Nat} {s : FS} {ms : List UInt8} (w : World) (h : RefAt w R C W M s ms) (A n : Nat) (hd : s.down = false) (hh : s.has A n) :
    Calls Try.prog 36 #[.pointer (some ⟨R, 0, none⟩), .int .i64 A, .int .i64 n] w fun e w' => ∃ b c, e = .returned (.tuple #[.slice (some ⟨b, 0, none⟩) n c, .int .i64 0]) ∧ w.heap.size ≤ b ∧
      Row w' b 5 ((s.part A n).map bv) c ∧ Keeps [] w w' := by
  obtain ⟨cc, cw, mv, c0, c1, c2, c3, c4, cf, rC, rW, rM⟩ := h.cells
  obtain ⟨i0, hi, hz0, hz1, hz2⟩ := info_parts infoByte
  rw [hd] at c4
  have hlen := h.len
  have hfew := h.few
  have hth := Rthere_any w h A n
  rw [decide_eq_true hh] at hth
  have HTH := Lib.hid hth
  have room := rC.room
  rw [List.length_map] at room
  have HP := Lib.hid (s.part_length A n hh)
  obtain ⟨_, _, hh2⟩ := hh
  have hwr : IntKind.i64.wrap ((A : Int) + n) = (A : Int) + n := IntWalk.i64_in _ (by omega)
  have d0 : (w.alloc (.cells #[] 5)).cell? ⟨R, 0, none⟩ = some (.slice (some ⟨C, 0, none⟩) s.bs.length cc) := (Keeps.alloc [] w _).cell c0 (by simp)
  have HO := Lib.hid (owns_empty w)
  have HC := Lib.hid (show ∀ j u, ((s.part A n).map bv)[j]? = some u → (w.alloc (.cells #[] 5)).cell? ((⟨C, A, none⟩ : Addr).add j) = some u by
    intro j u hu
    rw [Addr.add_off]
    refine (Keeps.alloc [] w _).cell (rC.cell (A + j) ?_) (by simp)
    rw [List.getElem?_map] at hu ⊢
    obtain ⟨c, hc, rfl⟩ := Option.map_eq_some_iff.1 hu
    unfold FS.part at hc
    rw [List.getElem?_take] at hc
    split at hc
    · rw [List.getElem?_drop] at hc
      simp at hc
      rw [hc]; rfl
    · cases hc)
  have hbs : s.bs.length ≤ 65536 := by omega
  clear hd cf rC rW rM h hth hlen c0
  by_cases hlo : A < cc
  · have hsl := slice_bytes C s.bs.length cc A (A + n) ((A : Int) + n) (by omega) (by omega) (by omega) (by omega)
    rw [Nat.add_sub_cancel_left] at hsl
    go_enter Try.func36, Try.ntmps36
    go_wp2_with (first | (go_at_call 52; refine HTH.out.mono ?_; rintro e w' ⟨rfl, rfl⟩) | (at_builtin; refine wpList_append_own _ rfl _ _ 31 rfl w.heap.size 5 i0 (.int .u8 0) 1 1 Try.underlying31 hi hz0 hz1 hz2 rfl (by decide) (.slice (some ⟨w.heap.size, 0, none⟩) 0 0) 0 [] rfl HO.out ⟨C, A, none⟩ n (cc - A) ((s.part A n).map bv) rfl ?c1 HC.out (one_bytes _) ?c3 ?c4 ?c5 ?_) | fail)
    case c1 => rw [List.length_map, HP.out]; simp
    case c3 => unfold maxLen; omega
    case c4 => omega
    case c5 => simp
    intro v' w2 hown2 hg2 hnil
    obtain ⟨b', c', rfl, hb', hR'⟩ := Row.ofOwns hown2 hnil
    have k2 : Keeps [] w w2 :=
      (Keeps.alloc [] _ _).then (Keeps.grown (S := [w.heap.size]) hg2 (fun k hk => by simp [Value.ownBlock] at hk; simp [hk])) (fun x hx => .inr (by simp at hx; omega))
    have HR' := Lib.hid hR'
    have HK2 := Lib.hid k2
    clear hown2 hg2 hnil hR' k2 HC HO HTH
    go_wp2
    go_ret2
    exact ⟨b', c', rfl, hb', HR'.out, HK2.out⟩
  · obtain rfl : n = 0 := by omega
    go_enter Try.func36, Try.ntmps36
    go_wp2_with (first | (go_at_call 52; refine HTH.out.mono ?_; rintro e w' ⟨rfl, rfl⟩) | fail)
    have hp : s.part A (0 : Nat) = [] := List.eq_nil_of_length_eq_zero HP.out
    go_ret2
    exact ⟨w.heap.size, 0, rfl, Nat.le_refl _, by rw [hp]; exact Row.ofOwnsAt HO.out, Keeps.alloc [] w _⟩
end Go.Proofs.Ytpcgckppdnlccaa
