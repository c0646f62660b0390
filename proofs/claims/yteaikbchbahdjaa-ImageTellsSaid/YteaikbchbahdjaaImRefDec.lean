/-
  Words as bytes: the words of bytes (the document's).
-/
import Derived.Test.YteaikbchbahdjaaImOne
namespace Go.Proofs.Yteaikbchbahdjaa
open Go.RowKit Go.Deep
set_option linter.unusedVariables false

theorem one_said : FirstSaid 30 false := by
  intro w v b M hr hb
  by_cases h4 : b.length < 4
  · refine (one_none w v b M hr hb (.inl h4)).mono fun e w' ⟨he, hk⟩ => .inr ⟨by unfold firstW; rw [if_pos h4], ⟨#[]⟩, 0, none, 0, 0, by rw [he]; rfl, hk⟩
  by_cases h5 : b.length < 4 + headN b + 4 * headC b
  · refine (one_none w v b M hr hb (.inr h5)).mono fun e w' ⟨he, hk⟩ => .inr ⟨by unfold firstW; rw [if_neg h4, if_pos h5], ⟨#[]⟩, 0, none, 0, 0, by rw [he]; rfl, hk⟩
  refine (one_is w v b M hr hb h4 h5).mono ?_
  rintro e w' ⟨s, f, a, n, c, z, he, hk, hh⟩
  obtain ⟨h1, h2⟩ := hh
  by_cases hx : rightW (wordOfB b) = true
  · obtain ⟨g1, g2, g3, g4⟩ := h1 hx
    exact .inl ⟨wordOfB b, s, f, a, n, c, z, by unfold firstW; rw [if_neg h4, if_neg h5, if_pos hx], he, Lib.hid ⟨g1, g2, g3⟩, g4, hk⟩
  · exact .inr ⟨by unfold firstW; rw [if_neg h4, if_neg h5, if_neg hx], s, f, a, n, c, by rw [he, h2 (by simpa using hx)], hk⟩

set_option maxRecDepth 100000 in
set_option maxHeartbeats 2000000 in
theorem r10Decode_said (w : World) (v : Value) (b : List UInt8) (M : Nat) (hr : Reads w v b M) (hb : b.length ≤ 1000000) :
    Calls Try.prog 18 #[v] w fun e w' => (∃ l v', decL b = some (l.map (·.1)) ∧ e = .returned (.tuple #[v', .int .i64 0]) ∧ WordsOwn false w' w.heap.size v' l ∧ l.length ≤ b.length ∧ Keeps [] w w') ∨
      (decL b = none ∧ e = .returned (.tuple #[.slice none 0 0, .int .i64 100]) ∧ Keeps [] w w') := by
  obtain ⟨a0, cap0, rfl, _⟩ := hr.shape
  have HF := Lib.hid one_said
  have HR := Lib.hid hr
  have HB := Lib.hid hb
  clear hr hb
  go_enter Try.func18, Try.ntmps18
  go_wp2
  go_loopw [0, 4, 5, 6] (fun bb ll _ _ wr => ∃ (l : List (Wd × Value)) (bs : List UInt8) (a : Option Addr) (cap : Nat) (vl : Value), bb = .slice a bs.length cap ∧ vl = ll ∧ (bs ≠ [] → M < w.heap.size) ∧ Reads wr (.slice a bs.length cap) bs M ∧ l.length + bs.length ≤ b.length ∧ decL b = (decL bs).map (l.map (·.1) ++ ·) ∧ WordsOwn false wr w.heap.size vl l ∧ Below w.heap.size w wr) (fun bb _ _ _ _ => sliceLen10 bb)
  case atStart => exact ⟨[], b, a0, cap0, _, rfl, rfl, fun hne => HR.out.under hne, HR.out, by simp, by simp, ⟨World.ownsRow_nil _ _ _ _, fun p hp => by simp at hp⟩, Below.refl _ _⟩
  case round =>
    obtain ⟨l, bs, a, cap, vl, rfl, rfl, hMlt, hrb, hlen, hdec, hown, hbel⟩ := hrel
    have HRB := Lib.hid hrb
    have HLN := Lib.hid hlen
    have HD := Lib.hid hdec
    have HO := Lib.hid hown
    have HBL := Lib.hid hbel
    clear hrb hlen hdec hown hbel
    by_cases hne : bs = []
    · subst hne
      go_wp2
      go_ret2
      exact .inl ⟨l, _, by rw [HD.out, dec_nil]; simp, rfl, HO.out, by have := HLN.out; omega, Keeps.ofBelow HBL.out⟩
    · have hpos : 0 < bs.length := List.length_pos_iff.2 hne
      have HST := Lib.hid (dec_step bs hne)
      have HC := Lib.hid (HF.out wr _ bs M HRB.out (by have := HLN.out; have := HB.out; omega))
      obtain ⟨n, hn⟩ : ∃ n, n = bs.length := ⟨_, rfl⟩
      rw [← hn] at hpos HC ⊢
      have HN := Lib.hid hn
      have hpos' : (0 : Int) < (n : Int) := by omega
      have hn6 : n ≤ 1000000 := by have := HLN.out; have := HB.out; have := HN.out; omega
      have hMw := hMlt hne
      clear hne hn hMlt
      obtain ⟨i0, hi, hz0, hz1, hz2⟩ := info_parts infoWord
      go_upto_region 4 with (go_at_call 30; refine HC.out.mono ?_; rintro e w1 (⟨x, s0, f0, a1, n1, c1, z, hx, rfl, hss, hg, hk⟩ | ⟨hx, s0, f0, a1, n1, c1, rfl, hk⟩))
      · obtain ⟨hs1, hs2, hs3⟩ := hss.out
        obtain ⟨hxr, hbb, hle⟩ := first_some hx
        have hz := sizeW_pos x
        have hz2' := sizeW_le hxr
        have HX := Lib.hid hx
        have HG := Lib.hid hg
        have HK1 := Lib.hid hk
        have HS1 := Lib.hid hs1
        have HS2 := Lib.hid hs2
        have HBB := Lib.hid hbb
        obtain ⟨y, hy⟩ : ∃ y, y = sizeW x := ⟨_, rfl⟩
        rw [← hy] at hz hle hs3 hz2'
        rw [← HN.out] at hle
        have HY := Lib.hid hy
        subst hs3
        clear hx hg hk hs1 hs2 hbb hxr hy hss
        have hy0 : ((y : Int) == 0) = false := by simp; omega
        generalize hV : World.alloc w1 _ = V
        have WX := Lib.hid (show Whole V w1.heap.size 27 [.string s0, .int .u8 f0, .slice a1 n1 c1] by rw [← hV]; exact Whole.new w1 _ _)
        have KV := Lib.hid (show Keeps [] w1 V by rw [← hV]; exact Keeps.alloc _ _ _)
        have p0 := WX.out.cell 0
        have p1 := WX.out.cell 1
        have p2 := WX.out.cell 2
        simp only [List.getElem?_cons_zero, List.getElem?_cons_succ] at p0 p1 p2
        clear hV
        have HOV := Lib.hid ((HO.out.next HK1.out).next KV.out)
        have HGV := Lib.hid (HG.out.next KV.out)
        have HBV := Lib.hid (below_keeps (below_keeps HBL.out HK1.out (Nat.le_refl _)) KV.out (Nat.le_refl _))
        have hvs : w.heap.size ≤ V.heap.size := HBV.out.size
        obtain ⟨p3, c3, hrun, hrd⟩ := (HRB.out.keeps (HK1.out.trans KV.out) (by simp)).tail y (by rw [← HN.out]; exact hle)
        rw [← HN.out] at hrun
        have HRD := Lib.hid hrd
        have HDL := Lib.hid (show (bs.drop y).length = n - y by rw [List.length_drop, HN.out])
        rw [HDL.out] at hrun
        clear hrd
        obtain ⟨ll, hll⟩ : ∃ ll, ll = l.length := ⟨_, rfl⟩
        have hll2 : ll ≤ 1000000 := by have := HLN.out; have := HB.out; omega
        have HLL := Lib.hid hll
        clear hll
        go_wp2_with (first | (at_builtin; go_loud (refine wpList_append_words rfl _ _ rfl w.heap.size vl ll (l.flatMap wcells) rfl (by rw [HLL.out]; exact (HOV.out.next (Keeps.alloc [] _ _)).row) ⟨V.heap.size, 0, none⟩ 1 1 [.string s0, .int .u8 f0, .slice a1 n1 c1] rfl rfl (fun j u hu => by rw [Addr.add_off, Nat.zero_add, (Whole.new V 27 [.string s0, .int .u8 f0, .slice a1 n1 c1]).cell]; exact hu) (one_wcells _ _ _ _ _) (by omega) (by simp; omega) ?_); intro v4 w4 hown4 hk4; have HO4 := Lib.hid hown4; have HK4 := Lib.hid hk4; clear hown4 hk4))
        have hnot := own_not_u32 (HOV.out.next (Keeps.alloc [] V (.cells #[.string s0, .int .u8 f0, .slice a1 n1 c1] 27))).row
        have HB4 := Lib.hid (below_owned (below_keeps HBV.out (Keeps.alloc [] V _) (Nat.le_refl _)) (HOV.out.next (Keeps.alloc [] V _)).row HK4.out (Nat.le_refl _))
        have HW4 := Lib.hid (show WordsOwn false w4 w.heap.size v4 (l ++ [(x, .slice a1 n1 c1)]) by
          refine ⟨?_, fun p hp => ?_⟩
          · have := HO4.out
            rw [HLL.out] at this
            rw [List.length_append, List.flatMap_append]
            have e : [(x, Value.slice a1 n1 c1)].flatMap wcells = [.string s0, .int .u8 f0, .slice a1 n1 c1] := by simp [wcells, HS1.out, HS2.out]
            rw [e]; exact this
          · rcases List.mem_append.1 hp with hp | hp
            · exact ((HOV.out.next (Keeps.alloc [] V _)).got p hp).keeps HK4.out hnot
            · simp at hp; subst hp
              exact (((HGV.out.next (Keeps.alloc [] V _)).keeps HK4.out hnot)).mono (by have := HBL.out.size; omega))
        have HR4 := Lib.hid ((HRD.out.keeps (Keeps.alloc [] V (.cells #[.string s0, .int .u8 f0, .slice a1 n1 c1] 27)) (by simp)).keepsIf HK4.out (fun _ hm => by
          have := (((HOV.out.next (Keeps.alloc [] V (.cells #[.string s0, .int .u8 f0, .slice a1 n1 c1] 27))).row.lt M (by simpa using hm)).1)
          omega))
        go_roundw
        case rel =>
          refine ⟨l ++ [(x, .slice a1 n1 c1)], bs.drop y, p3, c3, v4, by rw [HDL.out], rfl, fun _ => hMw, HR4.out, ?_, ?_, HW4.out, HB4.out⟩
          · have := HLN.out; have := HN.out
            rw [HDL.out, List.length_append, List.length_singleton]; omega
          · rw [HD.out, HST.out, HX.out, HY.out]
            dsimp only
            rw [Option.map_map]
            congr 1
            funext q
            simp
        case measure => simp only [sliceLen10]; omega
      · have HX := Lib.hid (show decL b = none by rw [HD.out, HST.out, hx]; rfl)
        have HK := Lib.hid hk
        clear hx hk
        go_wp2
        go_ret2
        exact .inr ⟨HX.out, rfl, ((Keeps.ofBelow HBL.out).trans HK.out).trans (Keeps.alloc _ _ _)⟩
end Go.Proofs.Yteaikbchbahdjaa
