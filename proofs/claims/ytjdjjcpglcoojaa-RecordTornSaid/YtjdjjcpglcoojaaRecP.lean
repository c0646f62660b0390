/-
  Contracts of the statements' own helpers: written, all.
-/
import Derived.Test.YtjdjjcpglcoojaaRecO
import Derived.Test.YtjdjjcpglcoojaaParts
namespace Go.Proofs.Ytjdjjcpglcoojaa
open Go.RowKit

/-- A flash of eight sectors with records, one behind the other. -/
structure Wrote (s : FS) (ps : List (List UInt8)) : Prop where
  bytes : ∃ t, s.bs = recsL ps ++ t ∧ blank t
  len : s.bs.length = 2048
  down : s.down = false
  armed : s.armed = false

theorem Wrote.more {s : FS} {ps : List (List UInt8)} (h : Wrote s ps) (p : List UInt8) (hp : p.length ≤ 4080) (hs : sizes ps + sizeN p.length ≤ 2048) :
    ∃ s', s.write (sizes ps) p = (s', 0) ∧ Wrote s' (ps ++ [p]) := by
  obtain ⟨t, hb, ht⟩ := h.bytes
  have hl := recsL_length ps
  have hd : s.bs.drop (sizes ps) = t := by
    rw [hb, List.drop_append_of_le_length (by omega), List.drop_of_length_le (by omega), List.nil_append]
  have hw := write_blank (s := s) (sizes ps) p hp h.down h.armed (sizes_mod ps) (by rw [h.len]; exact hs) (by rw [hd]; exact ht)
  refine ⟨_, hw, ⟨t.drop (sizeN p.length), ?_, fun c hc => ht c (List.mem_of_mem_drop hc)⟩, ?_, h.down, h.armed⟩
  · show put s.bs (sizes ps) (recB p) = _
    unfold put
    rw [recsL_snoc, recB_length, ← List.drop_drop, hd, hb, List.take_append_of_le_length (by omega), List.take_of_length_le (by omega), List.append_assoc]
  · show (put s.bs (sizes ps) (recB p)).length = 2048
    rw [put_length _ _ _ (by rw [recB_length, h.len]; exact hs), h.len]

theorem Fresh8.wrote {s : FS} (h : Fresh8 s) : Wrote s [] := ⟨⟨s.bs, rfl, h.all⟩, h.len, h.down, h.armed⟩

set_option maxRecDepth 100000 in
set_option maxHeartbeats 1000000 in
theorem all4_any {F B W M : Nat} {s : FS} (w : World) (hF : FlashAt w F B W M s) (hd : s.down = false) (hl : s.bs.length = 2048) :
    Calls Try.prog 26 #[.pointer (some ⟨F, 0, none⟩)] w fun e w' => ∃ b c, e = .returned (.slice (some ⟨b, 0, none⟩) 2048 c) ∧ w.heap.size ≤ b ∧ Row w' b 5 (s.bs.map bv) c ∧ Keeps [] w w' := by
  have hh : s.has (0 : Int) (2048 : Int) := by unfold FS.has; omega
  have hp : s.part (0 : Int) (2048 : Int) = s.bs := by
    show (s.bs.drop 0).take 2048 = s.bs
    rw [List.drop_zero, List.take_of_length_le (by omega)]
  have HR := Lib.hid (Read_ok w hF 0 2048 hd hh)
  rw [hp] at HR
  clear hh hp hF hd
  go_enter Try.func26, Try.ntmps26
  go_wp2_with fail
  refine HR.out.mono ?_
  rintro e w1 ⟨b, c, rfl, hb, hr, k1⟩
  have H := Lib.hid hr
  have K := Lib.hid k1
  clear hr k1
  go_wp2
  go_ret
  exact ⟨b, c, rfl, hb, H.out, K.out⟩

/-- The first bytes, at the same place. -/
theorem Reads.first {w : World} {a : Option Addr} {cap : Nat} {l : List UInt8} {M : Nat} (h : Reads w (.slice a l.length cap) l M) (n : Nat) (hn : n ≤ l.length) : Reads w (.slice a n cap) (l.take n) M := by
  rcases h with ⟨hv, rfl⟩ | ⟨ad, c, hv, hc, hb, hcell⟩
  · simp at hv hn
    obtain ⟨rfl, rfl⟩ := hv
    subst hn
    exact .inl ⟨rfl, rfl⟩
  · simp at hv
    obtain ⟨rfl, rfl⟩ := hv
    have hl : (l.take n).length = n := by simp; omega
    refine .inr ⟨ad, cap, by rw [hl], by omega, fun hne => hb (by intro e; subst e; simp at hne), fun i x hi => ?_⟩
    rw [List.getElem?_take] at hi
    split at hi
    · exact hcell i x hi
    · cases hi

theorem run_cutP (w : World) (a : Option Addr) (len cap hi : Nat) (h : hi ≤ cap) : (Instr.sliceAt 46 (.slice a len cap) none (some (.int .i64 hi)) none).run Try.prog w = .ok (.slice a hi cap) w := by
  have hel : Try.prog.elem 46 = 22 := by kernel_rfl
  have hu : Try.prog.underlying 46 = some (.slice (Try.prog.elem 46)) := by rw [hel]; exact Try.underlying46
  have hsz : (sizeOf 22).run Try.prog w = .ok 1 w := by kernel_rfl
  rw [run_sliceAt_slice _ _ _ _ _ _ hu, run_slice_h _ _ _ _ _ hu _ _ (by omega) (by omega), hel, hsz]
  simp only [Result.andThen, sliced, Int.toNat_natCast]
  by_cases hc : cap = 0
  · rw [if_pos hc]; simp
  · rw [if_neg hc]
    cases a with
    | none => rfl
    | some ad => simp [Addr.add]

set_option maxRecDepth 100000 in
set_option maxHeartbeats 1000000 in
theorem written4_any (w : World) (a : Option Addr) (c B o : Nat) (ls : List (List UInt8)) (ha : ls ≠ [] → a = some ⟨B, o, none⟩) (hp : PartsAt w B o ls) (hm : ls.length ≤ maxLen) (hc : ls.length ≤ c) :
    Calls Try.prog 25 #[.slice a ls.length c] w fun e w' => ∃ F Bb Wb M s, e = .returned (.tuple #[.pointer (some ⟨F, 0, none⟩), .int .i64 (sizes (cutP ls)), .bool true]) ∧ FlashAt w' F Bb Wb M s ∧ Wrote s (cutP ls) ∧ Keeps [] w w' ∧ w.heap.size ≤ F ∧ w.heap.size ≤ Bb ∧ w.heap.size ≤ Wb := by
  unfold maxLen at hm
  obtain ⟨n, hn⟩ : ∃ n, n = ls.length := ⟨_, rfl⟩
  obtain ⟨m, hmm⟩ : ∃ m, m = min 8 n := ⟨_, rfl⟩
  have hmin := fun w ts t => run_min2 w ts t (n : Int) 8 m (by omega)
  have hcp := run_cutP
  have HN := Lib.hid hn
  have HM := Lib.hid hmm
  have HA := Lib.hid ha
  have HP := Lib.hid hp
  have hm8 : m ≤ 8 := by omega
  have hmn : m ≤ n := by omega
  have hcl := cutP_length ls
  have hsh := cutP_short ls
  rw [← hn] at hm hc hcl ⊢
  have hcl2 : (cutP ls).length = m := by rw [hcl, hmm]
  have HCL := Lib.hid hcl2
  have HSH := Lib.hid hsh
  have hmc : m ≤ c := by omega
  have hcm := fun w => run_cutP w a n c m hmc
  clear hn hmm ha hp hcl hsh hcl2 hcp
  go_enter Try.func25, Try.ntmps25
  go_wp2_with fail
  refine (New_ok w 8 (by decide) (by decide)).mono ?_
  rintro e w1 ⟨F, Bb, Wb, M, rfl, hF0, hB0, hW0, hF, k1⟩
  have hs0 := Fresh8.wrote fresh8
  generalize FS.new 8 = s0 at *
  have HF := Lib.hid hF
  have K1 := Lib.hid k1
  have HW0 := Lib.hid hs0
  clear hF k1 hs0
  go_wp2
  go_loopw [7, 20] (fun av i wr => ∃ (k : Nat) (s : FS), k ≤ m ∧ i = .int .i64 k ∧ av = .int .i64 (sizes ((cutP ls).take k)) ∧ FlashAt wr F Bb Wb M s ∧ Wrote s ((cutP ls).take k) ∧ Keeps [] w wr) (fun _ i _ => m - (intOf i).toNat)
  case atStart => exact ⟨0, s0, Nat.zero_le _, rfl, rfl, HF.out, HW0.out, K1.out⟩
  case round =>
    obtain ⟨k, s, hk, rfl, rfl, hF, hWr, kp⟩ := hrel
    have HFk := Lib.hid hF
    have HWk := Lib.hid hWr
    have KP := Lib.hid kp
    clear hF hWr kp
    by_cases hlt : k < m
    · obtain ⟨l, hl⟩ : ∃ l, ls[k]? = some l := ⟨_, List.getElem?_eq_getElem (by have := HN.out; omega)⟩
      obtain ⟨pp, cc, Mp, hcell, hrd, hml, hMl⟩ := HP.out k l hl
      have hne : ls ≠ [] := by intro e; rw [e] at hl; simp at hl
      have hae := HA.out hne
      have hcut := cutP_get ls k l (by omega) hl
      have htk : (cutP ls).take (k + 1) = (cutP ls).take k ++ [l.take 200] := by rw [List.take_add_one, hcut]; rfl
      have hsz : sizes ((cutP ls).take k) ≤ 215 * k := by
        have := sizes_le ((cutP ls).take k) (fun p hp => HSH.out p (List.mem_of_mem_take hp))
        rw [List.length_take, HCL.out, Nat.min_eq_left hk] at this
        exact this
      have htl : (l.take 200).length ≤ 200 := by simp; omega
      have hf := fillN_lt (l.take 200).length
      obtain ⟨s', hws, hWr'⟩ := HWk.out.more (l.take 200) (by omega) (by unfold sizeN; omega)
      have hss := sizes_snoc ((cutP ls).take k) (l.take 200)
      rw [← htk] at hWr' hss
      have c0 := KP.out.cell hcell (by simp)
      have hrd' := hrd.keeps KP.out (by simp)
      obtain ⟨_, hlcc⟩ := hrd.len
      have HWS := Lib.hid hws
      have HWR := Lib.hid hWr'
      have HSS := Lib.hid hss
      subst hae
      clear hws hWr' hss hl hcell hrd hcut htk
      unfold maxLen at hml
      by_cases hlong : 200 < l.length
      · have hr2 := hrd'.first 200 (by omega)
        have h200 : (l.take 200).length = 200 := by simp; omega
        have HWA := Lib.hid (Write_any wr HFk.out (sizes ((cutP ls).take k)) _ (l.take 200) Mp hr2 (by omega))
        rw [HWS.out] at HWA
        have HS := Lib.hid (fun w => Size_ok w 200 (by decide))
        rw [h200] at HSS
        have hz : sizeN 200 ≤ 300 := by decide
        generalize sizes ((cutP ls).take k) = at0 at *
        generalize l.length = ll at *
        generalize hsz2 : sizeN 200 = z at *
        clear h200 hr2 hrd' htl hf hsz2 hMl
        have hat : at0 ≤ 2000 := by omega
        go_wp2_with fail
        refine HWA.out.mono ?_
        rintro e w2 ⟨rfl, hF2, k2⟩
        have HF2 := Lib.hid hF2
        have K2 := Lib.hid (KP.out.then k2 (fun x hx => .inr (by simp at hx; rcases hx with rfl | rfl <;> (have := K1.out.size; omega))))
        clear hF2 k2 HWA
        go_wp2_with fail
        refine (HS.out _).mono ?_
        rintro e w' ⟨rfl, rfl⟩
        go_wp2
        go_roundw
        case rel => exact ⟨k + 1, s', by omega, by go_num, by rw [HSS.out]; go_num, HF2.out, HWR.out, K2.out⟩
        case measure => simp [intOf]; omega
      · have ht : l.take 200 = l := List.take_of_length_le (by omega)
        rw [ht] at HWS HSS htl hf
        have HWA := Lib.hid (Write_any wr HFk.out (sizes ((cutP ls).take k)) _ l Mp hrd' (by omega))
        rw [HWS.out] at HWA
        have HS := Lib.hid (fun w => Size_ok w l.length (by omega))
        have hz : sizeN l.length ≤ 300 := by unfold sizeN; omega
        generalize sizes ((cutP ls).take k) = at0 at *
        generalize hsz2 : sizeN l.length = z at *
        generalize l.length = ll at *
        clear ht hrd' hf hsz2 hMl
        have hat : at0 ≤ 2000 := by omega
        go_wp2_with fail
        refine HWA.out.mono ?_
        rintro e w2 ⟨rfl, hF2, k2⟩
        have HF2 := Lib.hid hF2
        have K2 := Lib.hid (KP.out.then k2 (fun x hx => .inr (by simp at hx; rcases hx with rfl | rfl <;> (have := K1.out.size; omega))))
        clear hF2 k2 HWA
        go_wp2_with fail
        refine (HS.out _).mono ?_
        rintro e w' ⟨rfl, rfl⟩
        go_wp2
        go_roundw
        case rel => exact ⟨k + 1, s', by omega, by go_num, by rw [HSS.out]; go_num, HF2.out, HWR.out, K2.out⟩
        case measure => simp [intOf]; omega
    · have hkm : k = m := by omega
      have hall : (cutP ls).take k = cutP ls := by rw [List.take_of_length_le (by rw [HCL.out]; omega)]
      rw [hall] at HWk ⊢
      generalize hq : sizes (cutP ls) = q at *
      have HQ := Lib.hid hq
      clear hall hlt hk hq
      subst hkm
      go_wp2
      go_ret3
      exact ⟨F, Bb, Wb, M, s, by rw [HQ.out]; rfl, HFk.out, HWk.out, KP.out, hF0, hB0, hW0⟩

theorem run_firstB (w : World) (a : Option Addr) (len cap hi : Nat) (h : hi ≤ cap) : (Instr.sliceAt 22 (.slice a len cap) none (some (.int .i64 hi)) none).run Try.prog w = .ok (.slice a hi cap) w := by
  rw [run_cut_h _ _ _ _ _ h]
  simp only [sliced]
  by_cases hc : cap = 0
  · rw [if_pos hc]; simp
  · rw [if_neg hc]
    cases a with
    | none => rfl
    | some ad => simp [Addr.add]
end Go.Proofs.Ytjdjjcpglcoojaa
