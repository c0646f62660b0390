/-
  MemMoves, walked.
-/
import Derived.Test.YtcbdkkpoliameaaMemBackA
namespace Go.Proofs.Ytcbdkkpoliameaa
open Go.RowKit
set_option linter.unusedVariables false

theorem gL_win (win ram : List UInt8) : gL win ram 4096 win.length = win ∧ tT win ram 4096 win.length = 0 := by
  have h : inAt 4096 win 4096 win.length := by unfold inAt; omega
  unfold gL tT
  rw [if_pos h, if_pos (.inl h)]
  simp

/-- What a Move does, in letters. -/
theorem move_split (win ram : List UInt8) (A k n many : Nat) (hn : ram.length = n) (hw : win.length ≤ 65536) (hk : k ≤ n) :
    (moveT win ram A (1048576 + k) many = -9 ∧ moveL win ram A (1048576 + k) many = ram ∧ (tT win ram A many = -9 ∨ (tT win ram A many = 0 ∧ tT win ram (1048576 + k) many = -9))) ∨
    (∃ (G R : List UInt8), moveT win ram A (1048576 + k) many = 0 ∧ tT win ram A many = 0 ∧ tT win ram (1048576 + k) many = 0 ∧ gL win ram A many = G ∧ moveL win ram A (1048576 + k) many = R ∧ k + many ≤ n ∧ R.length = n ∧ G.length = many ∧
      (R.drop k).take many = G ∧ R.take k = ram.take k ∧ R.drop (k + many) = ram.drop (k + many)) := by
  have hnb : ¬ inAt 4096 win (1048576 + k) many := by unfold inAt; omega
  rcases tT_or win ram A many with ht | ht
  · by_cases hi : inAt 1048576 ram (1048576 + k) many
    · have hi' := hi
      unfold inAt at hi'
      have hG := gL_length ht
      have hkm : k + (gL win ram A many).length ≤ ram.length := by omega
      refine .inr ⟨_, _, ?_, ht, tT_ram hi, rfl, rfl, by omega, ?_, hG, ?_, ?_, ?_⟩
      · unfold moveT pT; rw [if_pos ht, if_pos hi]
      all_goals
        unfold moveL pL
        rw [if_pos ht, hG, if_pos hi, Nat.add_sub_cancel_left]
      · rw [putAt_length _ _ _ hkm, hn]
      · have := putAt_mid ram k _ hkm
        rwa [hG] at this
      · unfold putAt
        rw [List.take_append_of_le_length (by simp; omega), List.take_take, Nat.min_self]
      · refine List.ext_getElem? fun i => ?_
        rw [List.getElem?_drop, List.getElem?_drop, putAt_get ram k _ hkm, if_neg (by omega)]
    · refine .inl ⟨?_, ?_, .inr ⟨ht, ?_⟩⟩
      · unfold moveT pT; rw [if_pos ht, if_neg hi, if_neg hnb]
      · unfold moveL pL; rw [if_pos ht, gL_length ht, if_neg hi]
      · unfold tT; rw [if_neg (by rintro (h | h); exact hnb h; exact hi h)]
  · refine .inl ⟨?_, ?_, .inl ht⟩
    · unfold moveT; rw [if_neg (by rw [ht]; decide)]
    · unfold moveL; rw [if_neg (by rw [ht]; decide)]

theorem move_letters (win ram : List UInt8) (A B k n many : Nat) (hB : B = 1048576 + k) (hn : ram.length = n) (hw : win.length ≤ 65536) (hk : k ≤ n) :
    ∃ (G GB R : List UInt8) (f g t : Int), gL win ram A many = G ∧ gL win ram B many = GB ∧ tT win ram A many = f ∧ tT win ram B many = g ∧ moveT win ram A B many = t ∧ moveL win ram A B many = R ∧ R.length = n ∧
      ((t = -9 ∧ R = ram ∧ (f = -9 ∨ (f = 0 ∧ g = -9))) ∨ (t = 0 ∧ f = 0 ∧ g = 0 ∧ k + many ≤ n ∧ G.length = many ∧ (R.drop k).take many = G ∧ R.take k = ram.take k ∧ R.drop (k + many) = ram.drop (k + many))) := by
  subst hB
  refine ⟨_, _, _, _, _, _, rfl, rfl, rfl, rfl, rfl, rfl, ?_⟩
  rcases move_split win ram A k n many hn hw hk with ⟨h1, h2, h3⟩ | ⟨G, R, h1, h2, h3, h4, h5, h6, h7, h8, h9, h10, h11⟩
  · exact ⟨by rw [h2, hn], .inl ⟨h1, h2, h3⟩⟩
  · rw [h4, h5]
    exact ⟨h7, .inr ⟨h1, h2, h3, h6, h8, h9, h10, h11⟩⟩

/-- The bytes from one place to another. -/
theorem Reads.mid {w : World} {a : Option Addr} {cap n : Nat} {l L : List UInt8} {M : Nat} (h : Reads w (.slice a n cap) l M) (lo hi : Nat) (h1 : lo ≤ hi) (h2 : hi ≤ l.length) (hL : (l.drop lo).take (hi - lo) = L) :
    ∃ p c, (∀ w, (Instr.sliceAt 22 (.slice a n cap) (some (.int .i64 lo)) (some (.int .i64 hi)) none).run Try.prog w = .ok (.slice p L.length c) w) ∧ Reads w (.slice p L.length c) L M := by
  obtain ⟨rfl, hc⟩ := h.len
  obtain ⟨p, c, e, r⟩ := h.cut lo hi h1 h2
  rw [hL] at e r
  exact ⟨p, c, fun w => by rw [run_cut_lh _ _ _ _ _ _ h1 (by omega), e], r⟩
theorem Reads.head2 {w : World} {a : Option Addr} {cap n : Nat} {l L : List UInt8} {M : Nat} (h : Reads w (.slice a n cap) l M) (k : Nat) (h2 : k ≤ l.length) (hL : l.take k = L) :
    ∃ p c, (∀ w, (Instr.sliceAt 22 (.slice a n cap) none (some (.int .i64 k)) none).run Try.prog w = .ok (.slice p L.length c) w) ∧ Reads w (.slice p L.length c) L M := by
  obtain ⟨rfl, hc⟩ := h.len
  obtain ⟨p, c, e, r⟩ := h.head k h2
  rw [hL] at e r
  exact ⟨p, c, e, r⟩
theorem Reads.tail2 {w : World} {a : Option Addr} {cap n : Nat} {l L : List UInt8} {M : Nat} (h : Reads w (.slice a n cap) l M) (k : Nat) (h2 : k ≤ l.length) (hL : l.drop k = L) :
    ∃ p c, (∀ w, (Instr.sliceAt 22 (.slice a n cap) (some (.int .i64 k)) none none).run Try.prog w = .ok (.slice p L.length c) w) ∧ Reads w (.slice p L.length c) L M := by
  obtain ⟨rfl, hc⟩ := h.len
  obtain ⟨p, c, e, r⟩ := h.tail k h2
  rw [hL] at e r
  exact ⟨p, c, e, r⟩

set_option maxRecDepth 100000 in
set_option maxHeartbeats 4000000 in
theorem MemMoves_any (w : World) (cells : Nat) (hc0 : cells < 256) (v : Value) (win : List UInt8) (Mw : Nat) (h : Reads w v win Mw) (hl : win.length ≤ maxLen) (lv : Value) (lb : List UInt8) (Ml : Nat) (hlv : Reads w lv lb Ml) (hlb : lb.length ≤ maxLen)
    (fr to nn : Nat) (fr1 : fr < 65536) (to1 : to < 65536) (nn1 : nn < 65536) (out : Bool) :
    Calls Try.prog 5 #[.int .u8 cells, v, lv, .int .u16 fr, .int .u16 to, .int .u16 nn, .bool out] w fun e w' => e = .returned (.bool true) ∧ Keeps [] w w' := by
  have hml : maxLen = 9223372036854775807 := rfl
  obtain ⟨N0, hN0⟩ : ∃ N0, N0 = cells % 64 := ⟨_, rfl⟩
  obtain ⟨n, hn⟩ : ∃ n, n = 4 + 4 * N0 := ⟨_, rfl⟩
  have eN : (cells : Int) % 64 = (N0 : Int) := by omega
  have eN1 : (4 : Int) + 4 * (N0 : Int) = (n : Int) := by omega
  have bN : N0 < 64 := by omega
  obtain ⟨a, cap, rfl, hcap⟩ := h.shape
  obtain ⟨k3, hk3⟩ : ∃ k, k = min win.length 300 := ⟨_, rfl⟩
  have hmn := fun w ts t => run_min9 w ts t (win.length : Int) 300 k3 (by omega)
  obtain ⟨pa, pc, hcutW, hrW⟩ := h.head k3 (by omega)
  have htk : (win.take k3).length = k3 := by simp; omega
  rw [htk] at hcutW hrW
  have HRW := Lib.hid hrW
  have HTK := Lib.hid htk
  have bk : k3 ≤ 300 ∧ k3 ≤ win.length := by omega
  obtain ⟨al, cl, rfl, hlc⟩ := hlv.shape
  obtain ⟨K, hK⟩ : ∃ K, K = min lb.length n := ⟨_, rfl⟩
  have hmn2 := fun w ts t => run_min9 w ts t (lb.length : Int) (n : Int) K (by omega)
  obtain ⟨pl, pcl, hcutL, hrL⟩ := hlv.head K (by omega)
  have hlk : (lb.take K).length = K := by simp; omega
  rw [hlk] at hcutL hrL
  have HCELL := Lib.hid (show 0 < K → ∃ off, pl = some ⟨Ml, off, none⟩ ∧ ∀ j, j < K → ∃ c : UInt8, w.cell? ⟨Ml, off + j, none⟩ = some (bv c) from fun h0 => by
    obtain ⟨off, cp, e, _, hc⟩ := hrL.at (by intro e; rw [e] at hlk; simp at hlk; omega)
    injection e with e
    exact ⟨off, e, fun j hj => ⟨_, hc j _ (List.getElem?_eq_getElem (by omega))⟩⟩)
  have HKN := Lib.hid (show K ≤ n ∧ K ≤ lb.length from by omega)
  have hKn : K ≤ 256 := by omega
  obtain ⟨bk1, bk2⟩ := bk
  have hn4 : 4 ≤ n ∧ n ≤ 256 ∧ n % 4 = 0 := by omega
  obtain ⟨n4, n2, nm⟩ := hn4
  have HNM := Lib.hid nm
  clear hN0 hn hk3 hrW htk hK h hlv nm hrL hlk
  generalize win.take k3 = win' at *
  generalize win.length = wl at *
  generalize lb.length = ll at *
  -- the places
  obtain ⟨n1, hn1⟩ : ∃ n1 : Int, (n : Int) + 1 = n1 := ⟨_, rfl⟩
  obtain ⟨ra, hra⟩ : ∃ ra, ra = fr % (n + 1) := ⟨_, rfl⟩
  obtain ⟨kb, hkb⟩ : ∃ kb, kb = to % (n + 1) := ⟨_, rfl⟩
  obtain ⟨k1, hk1⟩ : ∃ k1 : Int, (k3 : Int) + 1 = k1 := ⟨_, rfl⟩
  obtain ⟨rw', hrw⟩ : ∃ r, r = fr % (k3 + 1) := ⟨_, rfl⟩
  obtain ⟨many, hmany⟩ : ∃ m, m = nn % 300 := ⟨_, rfl⟩
  obtain ⟨Ar, hAr⟩ : ∃ Ar : Int, 1048576 + (ra : Int) = Ar := ⟨_, rfl⟩
  obtain ⟨Aw, hAw⟩ : ∃ Aw : Int, 4096 + (rw' : Int) = Aw := ⟨_, rfl⟩
  obtain ⟨Bi, hBi⟩ : ∃ Bi : Int, 1048576 + (kb : Int) = Bi := ⟨_, rfl⟩
  have e1 : (fr : Int) % n1 = (ra : Int) := by rw [hra, ← hn1]; rfl
  have e1t : (fr : Int).tmod n1 = (ra : Int) := by rw [hra, ← hn1]; rfl
  have e2 : (to : Int) % n1 = (kb : Int) := by rw [hkb, ← hn1]; rfl
  have e2t : (to : Int).tmod n1 = (kb : Int) := by rw [hkb, ← hn1]; rfl
  have e3 : (fr : Int) % k1 = (rw' : Int) := by rw [hrw, ← hk1]; rfl
  have e3t : (fr : Int).tmod k1 = (rw' : Int) := by rw [hrw, ← hk1]; rfl
  have e4 : (nn : Int) % 300 = (many : Int) := by rw [hmany]; rfl
  have e4t : (nn : Int).tmod 300 = (many : Int) := by rw [hmany]; rfl
  have ra2 : ra ≤ n := by have := Nat.mod_lt fr (show 0 < n + 1 by omega); omega
  have kb2 : kb ≤ n := by have := Nat.mod_lt to (show 0 < n + 1 by omega); omega
  have rw2 : rw' ≤ 300 := by have := Nat.mod_lt fr (show 0 < k3 + 1 by omega); omega
  have mn2 : many < 300 := by omega
  have n10 : 0 < n1 := by omega
  have n1b : n1 ≤ 257 := by omega
  have k10 : 0 < k1 := by omega
  have k1b : k1 ≤ 301 := by omega
  have n1z : ¬ n1 = 0 := by omega
  have k1z : ¬ k1 = 0 := by omega
  have hBk : Bi - 1048576 = (kb : Int) := by omega
  have Ar0 : 0 ≤ Ar := by omega
  have Ar1 : Ar < 2000000 := by omega
  have Aw0 : 0 ≤ Aw := by omega
  have Aw1 : Aw < 2000000 := by omega
  have B0 : 0 ≤ Bi := by omega
  have B1 : Bi < 2000000 := by omega
  have hw1 : IntKind.u32.wrap n1 = n1 := by simp [IntKind.wrap, IntKind.signed, IntKind.bits]; omega
  have hw2 : IntKind.u32.wrap k1 = k1 := by simp [IntKind.wrap, IntKind.signed, IntKind.bits]; omega
  have hw3 : IntKind.u32.wrap Ar = Ar := by simp [IntKind.wrap, IntKind.signed, IntKind.bits]; omega
  have hw4 : IntKind.u32.wrap Aw = Aw := by simp [IntKind.wrap, IntKind.signed, IntKind.bits]; omega
  have hw5 : IntKind.u32.wrap Bi = Bi := by simp [IntKind.wrap, IntKind.signed, IntKind.bits]; omega
  have hw6 : IntKind.i64.wrap n1 = n1 := by simp [IntKind.wrap, IntKind.signed, IntKind.bits]; omega
  have hw7 : IntKind.u32.wrap (fr : Int) = (fr : Int) := by simp [IntKind.wrap, IntKind.signed, IntKind.bits]; omega
  have hw8 : IntKind.u32.wrap (to : Int) = (to : Int) := by simp [IntKind.wrap, IntKind.signed, IntKind.bits]; omega
  have HBI := Lib.hid hBi
  clear hra hkb hrw hmany
  go_enter Try.func5, Try.ntmps5
  go_wp2_with (first | (go_at_call 9; refine (New_my w _ (Keeps.refl _ _) (n : Int) n rfl n4 (by omega) HNM.out _ win' Mw HRW.out (by rw [HTK.out]; omega)).mono ?_; rintro e w1 ⟨g, rb, rfl, hs, hk⟩; have HS := Lib.hid hs; clear hs hk) | fail)
  go_loopw [18, 19, 58] (fun _ _ i wr => ∃ (j : Nat) (R : List UInt8), j ≤ K ∧ i = .int .i64 j ∧ Hid (R.length = n) ∧ Hid (MyMem w wr g rb win' R)) (fun _ _ i _ => K - (intOf i).toNat)
  case atStart => exact ⟨0, List.replicate n 0, by omega, rfl, Lib.hid (by simp), HS⟩
  case round =>
    obtain ⟨j, R, hj, rfl, hR, hm⟩ := hrel
    clear HS
    by_cases hlt : j < K
    · have hji : (j : Int) < K := by omega
      obtain ⟨off, hap, hall⟩ := HCELL.out (by omega)
      obtain ⟨c, hc⟩ := hall j hlt
      subst hap
      obtain ⟨y, hy⟩ : ∃ y : Int, y = c.toNat := ⟨_, rfl⟩
      have q0 : wr.cell? ⟨Ml, off + j, none⟩ = some (.int .u8 y) := by rw [hy]; exact hm.out.kept.cell hc (by simp)
      have HY := Lib.hid hy
      clear hc hy hall
      go_wp2_with (go_at_call 13; refine (SetByte_my hm.out (1048576 + (j : Int)) y (1048576 + j) c (by omega) HY.out (by omega) _ _ rfl rfl).mono ?_; rintro e w2 ⟨rfl, h2, _⟩; have HM2 := Lib.hid h2; clear h2)
      go_roundw
      case rel => exact ⟨j + 1, _, by omega, by go_num, Lib.hid (by
        unfold pL; split
        · next hi => unfold inAt at hi; rw [putAt_length _ _ _ (by omega)]; exact hR.out
        · exact hR.out), HM2⟩
      case measure => simp [intOf]; omega
    · obtain rfl : j = K := by omega
      have HM := Lib.hid hm.out
      clear HCELL hm
      have HRL := Lib.hid hR.out
      have HWL := Lib.hid (show win'.length ≤ 65536 from by have := HTK.out; omega)
      cases out
      · have HAI := Lib.hid (show Ar = ((1048576 + ra : Nat) : Int) from by omega)
        have hAb : 1048576 + ra < 4294967296 := by omega
        generalize 1048576 + ra = A at HAI hAb
        obtain ⟨B, hB⟩ : ∃ B, B = 1048576 + kb := ⟨_, rfl⟩
        have HBI := Lib.hid (show Bi = (B : Int) from by omega)
        have hBb : B < 4294967296 := by omega
        obtain ⟨G, GB, R', f, gB, t, hG, hGB, hf, hgB, ht, hR', hRl, hcase⟩ := move_letters win' R A B kb n many hB HRL.out HWL.out kb2
        have HCASE := Lib.hid hcase
        have HRL' := Lib.hid hRl
        clear hcase hRl hB
        have HG := Lib.hid hG; have HGB := Lib.hid hGB; have HF := Lib.hid hf; have HGF := Lib.hid hgB; have HT := Lib.hid ht; have HR' := Lib.hid hR'
        clear hG hGB hf hgB ht hR'
        have hmb : many < 4294967296 := by omega
        go_wp2_with (first | (go_quiet (fail)) | fail)
        generalize hV : World.drewN _ _ = V
        have HMV := Lib.hid (show MyMem w V g rb win' R from by rw [← hV]; exact HM.out.next (Keeps.drewN _ _ _))
        clear hV HM
        refine (Ram_my HMV.out).mono ?_
        rintro e w3 ⟨a3, c3, M3, rfl, hr3, m3, m3', hk3⟩
        have HR3 := Lib.hid hr3; have HM3 := Lib.hid (HMV.out.next hk3); have HB3 := Lib.hid (show rb ≠ M3 from by have := HMV.out.ram_new.2; omega)
        clear hr3 hk3 m3 m3' HMV
        go_wp2_with fail
        refine (Bytes_my HM3.out Ar (many : Int) A many HAI.out rfl hAb hmb G f HG.out HF.out).mono ?_
        rintro e w4 ⟨a4, c4, M4, rfl, hr4, m4, hk4⟩
        have HR4 := Lib.hid hr4; have HM4 := Lib.hid (HM3.out.next hk4); have HB4 := Lib.hid (show G ≠ [] → rb ≠ M4 from fun h => by have := m4 h; have := HM3.out.ram_new.2; omega)
        have HR34 := Lib.hid (HR3.out.keeps hk4 (by simp))
        clear hr4 hk4 m4 HM3 HR3
        go_wp2_with fail
        refine (Bytes_my HM4.out Bi (many : Int) B many HBI.out rfl hBb hmb GB gB HGB.out HGF.out).mono ?_
        rintro e w5 ⟨a5, c5, M5, rfl, hr5, m5, hk5⟩
        have HM5 := Lib.hid (HM4.out.next hk5)
        have HR35 := Lib.hid (HR34.out.keeps hk5 (by simp))
        have HR45 := Lib.hid (HR4.out.keeps hk5 (by simp))
        clear hr5 hk5 m5 HM4 HR34 HR4
        go_wp2_with fail
        refine (Move_my HM5.out Ar Bi (many : Int) A B many HAI.out HBI.out rfl hAb hBb hmb t R' HT.out HR'.out).mono ?_
        rintro e w6 ⟨rfl, hm6, hk6⟩
        have HM6 := Lib.hid hm6
        have HR36 := Lib.hid (HR35.out.keeps hk6 (by simp; exact fun e => HB3.out e.symm))
        have HR46 := Lib.hid (HR45.out.ifKept hk6 (fun h => by simp; exact fun e => HB4.out h e.symm))
        clear hm6 hk6 HM5 HR35 HR45
        go_wp2_with fail
        refine (Ram_my HM6.out).mono ?_
        rintro e w7 ⟨a7, c7, M7, rfl, hr7, m7, m7', hk7⟩
        have HR7 := Lib.hid hr7; have HM7 := Lib.hid (HM6.out.next hk7)
        have HR37 := Lib.hid (HR36.out.keeps hk7 (by simp))
        have HR47 := Lib.hid (HR46.out.keeps hk7 (by simp))
        clear hr7 hk7 m7 m7' HM6 HR36 HR46
        rw [HRL.out] at HR37 ⊢
        rw [HRL'.out] at HR7 ⊢
        go_wp2_with fail
        refine (Bytes_my HM7.out 4096 (k3 : Int) 4096 k3 rfl rfl (by decide) (by omega) win' 0 (by have := (gL_win win' R').1; rwa [HTK.out] at this) (by have := (gL_win win' R').2; rwa [HTK.out] at this)).mono ?_
        rintro e w8 ⟨a8, c8, M8, rfl, hr8, m8, hk8⟩
        have HM8 := Lib.hid (HM7.out.next hk8)
        have HR78 := Lib.hid (HR7.out.keeps hk8 (by simp))
        have HR38 := Lib.hid (HR37.out.keeps hk8 (by simp))
        have HR48 := Lib.hid (HR47.out.keeps hk8 (by simp))
        have hcv1 := conv_reads hr8
        have hcv2 := conv_reads (HRW.out.keeps HM8.out.kept (by simp))
        clear hr8 hk8 m8 HM7 HR7 HR37 HR47
        rw [HTK.out] at hcv1 ⊢
        rcases HCASE.out with ⟨rfl, rfl, hfg⟩ | ⟨rfl, rfl, rfl, hkm, hGl, hmid, hlo, hhi⟩
        · have hcv3 := conv_reads HR38.out
          have hcv4 := conv_reads HR78.out
          rcases hfg with rfl | ⟨rfl, rfl⟩
          · go_wp2_with (go_at_call 8; refine (awake9_any _).mono ?_; rintro e w9 ⟨rfl, hk9⟩; have HK9 := Lib.hid hk9; clear hk9)
            go_ret
            exact ⟨rfl, HM8.out.kept.trans HK9.out⟩
          · go_wp2_with (go_at_call 8; refine (awake9_any _).mono ?_; rintro e w9 ⟨rfl, hk9⟩; have HK9 := Lib.hid hk9; clear hk9)
            go_ret
            exact ⟨rfl, HM8.out.kept.trans HK9.out⟩
        · rw [hGl]
          obtain ⟨E, hE⟩ : ∃ E : Int, (kb : Int) + (many : Int) = E := ⟨_, rfl⟩
          have hEw : IntKind.i64.wrap E = E := by simp [IntKind.wrap, IntKind.signed, IntKind.bits]; omega
          have hmw : IntKind.i64.wrap (many : Int) = (many : Int) := by simp [IntKind.wrap, IntKind.signed, IntKind.bits]; omega
          have hEn : E = ((kb + many : Nat) : Int) := by omega
          obtain ⟨p1, q1, hc1, hr1⟩ := HR78.out.mid (L := G) kb (kb + many) (by omega) (by rw [HRL'.out]; omega) (by rw [Nat.add_sub_cancel_left]; exact hmid)
          obtain ⟨p2, q2, hc2, hr2⟩ := HR78.out.head2 kb (by rw [HRL'.out]; omega) hlo
          obtain ⟨p3, q3, hc3, hr3⟩ := HR38.out.head2 kb (by rw [HRL.out]; omega) rfl
          obtain ⟨p4, q4, hc4, hr4⟩ := HR78.out.tail2 (kb + many) (by rw [HRL'.out]; omega) hhi
          obtain ⟨p5, q5, hc5, hr5⟩ := HR38.out.tail2 (kb + many) (by rw [HRL.out]; omega) rfl
          rw [← hEn] at hc1 hc4 hc5
          have H1 := Lib.hid hr1; have H2 := Lib.hid hr2; have H3 := Lib.hid hr3; have H4 := Lib.hid hr4; have H5 := Lib.hid hr5
          have HGL := Lib.hid hGl
          clear hEn hmid hlo hhi hr1 hr2 hr3 hr4 hr5 HCASE hkm HG HGB HF HGF HT HR'
          generalize List.take kb R = X1 at *
          generalize List.drop (kb + many) R = X2 at *
          rw [hGl] at hc1 H1 HR48
          generalize X1.length = x1l at *
          generalize X2.length = x2l at *
          clear hGl
          go_upto_region 28 with fail
          clear hcv1 hcv2
          refine wp_region_tail 40 (by kernel_rfl) (by kernel_rfl) ?_
          intro wz hwz
          have kz : Keeps [] w8 wz := by rw [hwz]; exact Keeps.drew _ _
          have v1 := conv_reads (H1.out.keeps kz (by simp))
          have v2 := conv_reads (H2.out.keeps kz (by simp))
          have v3 := conv_reads (H3.out.keeps kz (by simp))
          have v4 := conv_reads (H4.out.keeps kz (by simp))
          have v5 := conv_reads (H5.out.keeps kz (by simp))
          have v6 := conv_reads (HR48.out.keeps kz (by simp))
          have HMZ := Lib.hid (HM8.out.next kz)
          clear kz hwz
          simp only [List.take_succ_cons, List.take_zero, List.drop_succ_cons, List.drop_zero]
          repeat still_step
          refine wpStill_nil ?_
          go_wp2_with (go_at_call 8; refine (awake9_any _).mono ?_; rintro e w9 ⟨rfl, hk9⟩; have HK9 := Lib.hid hk9; clear hk9)
          go_ret
          exact ⟨rfl, HMZ.out.kept.trans HK9.out⟩
      · have HAI := Lib.hid (show Aw = ((4096 + rw' : Nat) : Int) from by omega)
        have hAb : 4096 + rw' < 4294967296 := by omega
        generalize 4096 + rw' = A at HAI hAb
        obtain ⟨B, hB⟩ : ∃ B, B = 1048576 + kb := ⟨_, rfl⟩
        have HBI := Lib.hid (show Bi = (B : Int) from by omega)
        have hBb : B < 4294967296 := by omega
        obtain ⟨G, GB, R', f, gB, t, hG, hGB, hf, hgB, ht, hR', hRl, hcase⟩ := move_letters win' R A B kb n many hB HRL.out HWL.out kb2
        have HCASE := Lib.hid hcase
        have HRL' := Lib.hid hRl
        clear hcase hRl hB
        have HG := Lib.hid hG; have HGB := Lib.hid hGB; have HF := Lib.hid hf; have HGF := Lib.hid hgB; have HT := Lib.hid ht; have HR' := Lib.hid hR'
        clear hG hGB hf hgB ht hR'
        have hmb : many < 4294967296 := by omega
        go_wp2_with (first | (go_quiet (fail)) | fail)
        generalize hV : World.drewN _ _ = V
        have HMV := Lib.hid (show MyMem w V g rb win' R from by rw [← hV]; exact HM.out.next (Keeps.drewN _ _ _))
        clear hV HM
        refine (Ram_my HMV.out).mono ?_
        rintro e w3 ⟨a3, c3, M3, rfl, hr3, m3, m3', hk3⟩
        have HR3 := Lib.hid hr3; have HM3 := Lib.hid (HMV.out.next hk3); have HB3 := Lib.hid (show rb ≠ M3 from by have := HMV.out.ram_new.2; omega)
        clear hr3 hk3 m3 m3' HMV
        go_wp2_with fail
        refine (Bytes_my HM3.out Aw (many : Int) A many HAI.out rfl hAb hmb G f HG.out HF.out).mono ?_
        rintro e w4 ⟨a4, c4, M4, rfl, hr4, m4, hk4⟩
        have HR4 := Lib.hid hr4; have HM4 := Lib.hid (HM3.out.next hk4); have HB4 := Lib.hid (show G ≠ [] → rb ≠ M4 from fun h => by have := m4 h; have := HM3.out.ram_new.2; omega)
        have HR34 := Lib.hid (HR3.out.keeps hk4 (by simp))
        clear hr4 hk4 m4 HM3 HR3
        go_wp2_with fail
        refine (Bytes_my HM4.out Bi (many : Int) B many HBI.out rfl hBb hmb GB gB HGB.out HGF.out).mono ?_
        rintro e w5 ⟨a5, c5, M5, rfl, hr5, m5, hk5⟩
        have HM5 := Lib.hid (HM4.out.next hk5)
        have HR35 := Lib.hid (HR34.out.keeps hk5 (by simp))
        have HR45 := Lib.hid (HR4.out.keeps hk5 (by simp))
        clear hr5 hk5 m5 HM4 HR34 HR4
        go_wp2_with fail
        refine (Move_my HM5.out Aw Bi (many : Int) A B many HAI.out HBI.out rfl hAb hBb hmb t R' HT.out HR'.out).mono ?_
        rintro e w6 ⟨rfl, hm6, hk6⟩
        have HM6 := Lib.hid hm6
        have HR36 := Lib.hid (HR35.out.keeps hk6 (by simp; exact fun e => HB3.out e.symm))
        have HR46 := Lib.hid (HR45.out.ifKept hk6 (fun h => by simp; exact fun e => HB4.out h e.symm))
        clear hm6 hk6 HM5 HR35 HR45
        go_wp2_with fail
        refine (Ram_my HM6.out).mono ?_
        rintro e w7 ⟨a7, c7, M7, rfl, hr7, m7, m7', hk7⟩
        have HR7 := Lib.hid hr7; have HM7 := Lib.hid (HM6.out.next hk7)
        have HR37 := Lib.hid (HR36.out.keeps hk7 (by simp))
        have HR47 := Lib.hid (HR46.out.keeps hk7 (by simp))
        clear hr7 hk7 m7 m7' HM6 HR36 HR46
        rw [HRL.out] at HR37 ⊢
        rw [HRL'.out] at HR7 ⊢
        go_wp2_with fail
        refine (Bytes_my HM7.out 4096 (k3 : Int) 4096 k3 rfl rfl (by decide) (by omega) win' 0 (by have := (gL_win win' R').1; rwa [HTK.out] at this) (by have := (gL_win win' R').2; rwa [HTK.out] at this)).mono ?_
        rintro e w8 ⟨a8, c8, M8, rfl, hr8, m8, hk8⟩
        have HM8 := Lib.hid (HM7.out.next hk8)
        have HR78 := Lib.hid (HR7.out.keeps hk8 (by simp))
        have HR38 := Lib.hid (HR37.out.keeps hk8 (by simp))
        have HR48 := Lib.hid (HR47.out.keeps hk8 (by simp))
        have hcv1 := conv_reads hr8
        have hcv2 := conv_reads (HRW.out.keeps HM8.out.kept (by simp))
        clear hr8 hk8 m8 HM7 HR7 HR37 HR47
        rw [HTK.out] at hcv1 ⊢
        rcases HCASE.out with ⟨rfl, rfl, hfg⟩ | ⟨rfl, rfl, rfl, hkm, hGl, hmid, hlo, hhi⟩
        · have hcv3 := conv_reads HR38.out
          have hcv4 := conv_reads HR78.out
          rcases hfg with rfl | ⟨rfl, rfl⟩
          · go_wp2_with (go_at_call 8; refine (awake9_any _).mono ?_; rintro e w9 ⟨rfl, hk9⟩; have HK9 := Lib.hid hk9; clear hk9)
            go_ret
            exact ⟨rfl, HM8.out.kept.trans HK9.out⟩
          · go_wp2_with (go_at_call 8; refine (awake9_any _).mono ?_; rintro e w9 ⟨rfl, hk9⟩; have HK9 := Lib.hid hk9; clear hk9)
            go_ret
            exact ⟨rfl, HM8.out.kept.trans HK9.out⟩
        · rw [hGl]
          obtain ⟨E, hE⟩ : ∃ E : Int, (kb : Int) + (many : Int) = E := ⟨_, rfl⟩
          have hEw : IntKind.i64.wrap E = E := by simp [IntKind.wrap, IntKind.signed, IntKind.bits]; omega
          have hmw : IntKind.i64.wrap (many : Int) = (many : Int) := by simp [IntKind.wrap, IntKind.signed, IntKind.bits]; omega
          have hEn : E = ((kb + many : Nat) : Int) := by omega
          obtain ⟨p1, q1, hc1, hr1⟩ := HR78.out.mid (L := G) kb (kb + many) (by omega) (by rw [HRL'.out]; omega) (by rw [Nat.add_sub_cancel_left]; exact hmid)
          obtain ⟨p2, q2, hc2, hr2⟩ := HR78.out.head2 kb (by rw [HRL'.out]; omega) hlo
          obtain ⟨p3, q3, hc3, hr3⟩ := HR38.out.head2 kb (by rw [HRL.out]; omega) rfl
          obtain ⟨p4, q4, hc4, hr4⟩ := HR78.out.tail2 (kb + many) (by rw [HRL'.out]; omega) hhi
          obtain ⟨p5, q5, hc5, hr5⟩ := HR38.out.tail2 (kb + many) (by rw [HRL.out]; omega) rfl
          rw [← hEn] at hc1 hc4 hc5
          have H1 := Lib.hid hr1; have H2 := Lib.hid hr2; have H3 := Lib.hid hr3; have H4 := Lib.hid hr4; have H5 := Lib.hid hr5
          have HGL := Lib.hid hGl
          clear hEn hmid hlo hhi hr1 hr2 hr3 hr4 hr5 HCASE hkm HG HGB HF HGF HT HR'
          generalize List.take kb R = X1 at *
          generalize List.drop (kb + many) R = X2 at *
          rw [hGl] at hc1 H1 HR48
          generalize X1.length = x1l at *
          generalize X2.length = x2l at *
          clear hGl
          go_upto_region 28 with fail
          clear hcv1 hcv2
          refine wp_region_tail 40 (by kernel_rfl) (by kernel_rfl) ?_
          intro wz hwz
          have kz : Keeps [] w8 wz := by rw [hwz]; exact Keeps.drew _ _
          have v1 := conv_reads (H1.out.keeps kz (by simp))
          have v2 := conv_reads (H2.out.keeps kz (by simp))
          have v3 := conv_reads (H3.out.keeps kz (by simp))
          have v4 := conv_reads (H4.out.keeps kz (by simp))
          have v5 := conv_reads (H5.out.keeps kz (by simp))
          have v6 := conv_reads (HR48.out.keeps kz (by simp))
          have HMZ := Lib.hid (HM8.out.next kz)
          clear kz hwz
          simp only [List.take_succ_cons, List.take_zero, List.drop_succ_cons, List.drop_zero]
          repeat still_step
          refine wpStill_nil ?_
          go_wp2_with (go_at_call 8; refine (awake9_any _).mono ?_; rintro e w9 ⟨rfl, hk9⟩; have HK9 := Lib.hid hk9; clear hk9)
          go_ret
          exact ⟨rfl, HMZ.out.kept.trans HK9.out⟩
theorem MemMoves_all (w : World) (cells : Int) (hc0 : 0 ≤ cells ∧ cells ≤ 255) (v : Value) (win : List UInt8) (Mw : Nat) (h : Reads w v win Mw) (hl : win.length ≤ maxLen) (lv : Value) (lb : List UInt8) (Ml : Nat) (hlv : Reads w lv lb Ml) (hlb : lb.length ≤ maxLen)
    (fr to nn : Int) (fr1 : 0 ≤ fr ∧ fr < 65536) (to1 : 0 ≤ to ∧ to < 65536) (nn1 : 0 ≤ nn ∧ nn < 65536) (out : Bool) :
    Calls Try.prog 5 #[.int .u8 cells, v, lv, .int .u16 fr, .int .u16 to, .int .u16 nn, .bool out] w fun e w' => e = .returned (.bool true) ∧ Keeps [] w w' := by
  obtain ⟨c, rfl⟩ := Int.eq_ofNat_of_zero_le hc0.1
  obtain ⟨f, rfl⟩ := Int.eq_ofNat_of_zero_le fr1.1
  obtain ⟨t, rfl⟩ := Int.eq_ofNat_of_zero_le to1.1
  obtain ⟨m, rfl⟩ := Int.eq_ofNat_of_zero_le nn1.1
  exact MemMoves_any w c (by omega) v win Mw h hl lv lb Ml hlv hlb f t m (by omega) (by omega) (by omega) out
end Go.Proofs.Ytcbdkkpoliameaa
