/-
  RingTorn, walked.
-/
import Derived.Test.YtdcfcljgennipaaRingTornA
import Derived.Test.YtdcfcljgennipaaRingTurnsW
namespace Go.Proofs.Ytdcfcljgennipaa
open Go.RowKit

/-- A turn, of a flash that is armed: done, or torn. -/
theorem turn_each {F B W M : Nat} {s : FS} (w : World) (hF : FlashAt w F B W M s) (hd : s.down = false) (first n : Nat) (hn : 3 ≤ n) (hfit : first + n ≤ s.wear.length) (now : Int) (x : BitVec 32) (p : Nat)
    (hpick : s.pick now (lookL s.bs first n) = some (hdrAt s.bs p)) (hp : p < first + n) (hwr : ∀ x ∈ s.wear, 0 ≤ x ∧ x < 9223372036854775807) (hpl : p < 1000) :
    ∃ (s' : FS) (e : Int), (e = 0 ∧ hdrL (sec s'.bs p) = (1, x) ∨ e = 12) ∧ (∀ j, j ≠ p → sec s'.bs j = sec s.bs j) ∧ s'.wear.length = s.wear.length ∧
      Calls Try.prog 39 #[.pointer (some ⟨F, 0, none⟩), .int .i64 first, .int .i64 n, .int .i64 now, uv x] w fun e' w' => e' = .returned (.tuple #[.int .i64 p, .int .i64 e]) ∧ FlashAt w' F B W M s' ∧ Keeps [F, B, W] w w' := by
  obtain ⟨s1, e1, q1, c1, o1, l1, w1⟩ := clear_cases (s := s) p (by omega) hd
  rcases c1 with ⟨rfl, b1, d1⟩ | rfl
  · obtain ⟨s2, e2, q2, c2, o2, l2, w2⟩ := opened_cases (s := s1) p x (by omega) (by rw [l1, w1]; exact hF.len) d1 b1
    exact ⟨s2, e2, c2, fun j hj => by rw [o2 j hj, o1 j hj], by rw [w2, w1], turn5_ok w hF hd first n hn hfit now x _ p rfl hpick hwr s1 s2 e2 q1 q2 hpl⟩
  · exact ⟨s1, 12, .inr rfl, o1, w1, turn5_torn w hF hd first n hn hfit now x _ p rfl hpick hwr s1 12 q1 (by decide) hpl⟩

set_option maxRecDepth 100000 in
set_option maxHeartbeats 2000000 in
theorem RingTorn_long (w : World) (a b : Int) (x : Option Addr) (n cap : Nat) (hn : 300 < n) :
    Calls Try.prog 7 #[.int .u8 a, .int .u8 b, .slice x n cap] w fun e w' => e = .returned (.bool true) ∧ Keeps [] w w' := by
  go_enter Try.func7, Try.ntmps7
  go_wp2_with fail
  refine (New_ok w 8 (by decide) (by decide)).mono ?_
  rintro e w1 ⟨F, B, W, M, rfl, hF0, hB0, hW0, hF, k1⟩
  have K1 := Lib.hid k1
  clear hF k1
  go_wp2_with (go_at_call 29; refine (awake5_any _).mono ?_; rintro e w2 ⟨rfl, k2⟩; have K2 := Lib.hid k2; clear k2)
  go_ret
  exact ⟨rfl, K1.out.trans K2.out⟩

set_option maxRecDepth 100000 in
set_option maxHeartbeats 1000000 in
theorem RingTorn_short (w : World) (t0 a0 : Int) (v : Value) (l : List UInt8) (Ml : Nat) (hr : Reads w v l Ml) (hl : l.length ≤ 300) (ht : 0 ≤ t0 ∧ t0 ≤ 255) (ha : 0 ≤ a0 ∧ a0 ≤ 255) :
    Calls Try.prog 7 #[.int .u8 t0, .int .u8 a0, v] w fun e w' => e = .returned (.bool true) ∧ Keeps [] w w' := by
  have hgd := hdr_guard
  have hsm := hdr_equal
  obtain ⟨T, rfl⟩ := Int.eq_ofNat_of_zero_le ht.1
  obtain ⟨A, rfl⟩ := Int.eq_ofNat_of_zero_le ha.1
  obtain ⟨c, hc⟩ : ∃ c, c = T % 40 := ⟨_, rfl⟩
  obtain ⟨m, hm⟩ : ∃ m, m = 1 + c := ⟨_, rfl⟩
  obtain ⟨a4, ha4⟩ : ∃ a4, a4 = A % 4 := ⟨_, rfl⟩
  have e1 : (T : Int) % 40 = (c : Int) := by omega
  have e2 : (T : Int).tmod 40 = (c : Int) := by rw [Int.tmod_eq_emod_of_nonneg (by omega)]; exact e1
  have e3 : (1 : Int) + (c : Int) = (m : Int) := by omega
  have e4 : (A : Int) % 4 = (a4 : Int) := by omega
  have e5 : (A : Int).tmod 4 = (a4 : Int) := by rw [Int.tmod_eq_emod_of_nonneg (by omega)]; exact e4
  have hm1 : 1 ≤ m := by omega
  have hm40 : m ≤ 40 := by omega
  have hci : (c : Int) ≤ 39 := by omega
  have hmi : (m : Int) ≤ 40 := by omega
  have hT : T < 256 := by omega
  have hA : A < 256 := by omega
  have ha43 : a4 ≤ 3 := by omega
  obtain ⟨xa, cap, rfl, hcap⟩ := hr.shape
  have HR := Lib.hid hr
  obtain ⟨nl, hnl⟩ : ∃ nl, nl = l.length := ⟨_, rfl⟩
  have HNL := Lib.hid hnl
  rw [← hnl] at hl hcap HR ⊢
  clear hc hm ha4 ht ha hr hnl
  go_enter Try.func7, Try.ntmps7
  go_wp2_with fail
  refine (New_ok w 8 (by decide) (by decide)).mono ?_
  rintro e w1 ⟨F, B, W, M, rfl, hF0, hB0, hW0, hF, k1⟩
  have HT0 := Lib.hid (Turned.new 8 1 4 (by decide))
  generalize FS.new 8 = s0 at *
  have HF := Lib.hid hF
  have K1 := Lib.hid k1
  have hlt := hF.lt
  clear hF k1
  go_wp2
  go_loopw [9, 11, 12, 13, 45] (fun nv _ _ _ ix wr => ∃ (k : Nat) (s : FS) (now : Int), k ≤ m ∧ ix = .int .i64 k ∧ nv = .int .i64 now ∧ Turned 8 1 4 now k s ∧ FlashAt wr F B W M s ∧ Keeps [] w wr) (fun _ _ _ _ ix _ => m - (intOf ix).toNat)
  case atStart => exact ⟨0, s0, -1, by omega, rfl, rfl, HT0.out, HF.out, K1.out⟩
  case round =>
    obtain ⟨k, s, now, hk, rfl, rfl, hT, hF, hkp⟩ := hrel
    have KW := Lib.hid hkp
    have szw := hkp.size
    have hl2 := hF.lt
    by_cases hkm : k < m
    · have hki : (k : Int) < (m : Int) := by omega
      obtain ⟨p, p1, p2, pn, hpk, hmin⟩ := pick_turn s 1 4 now (by omega)
      obtain ⟨s1, s2, hcl, hop, hT2⟩ := hT.step (by omega) p p1 p2 pn hmin
      have hturn := turn5_ok wr hF hT.down 1 4 (by decide) (by rw [hT.wl]; decide) now (BitVec.ofNat 32 (k + 1)) _ p rfl hpk (hT.small (by omega)) s1 s2 0 hcl hop (by omega)
      rw [uv_ofNat _ (by omega), show ((k + 1 : Nat) : Int) = (k : Int) + 1 by omega] at hturn
      have HTU := Lib.hid hturn
      have HT2 := Lib.hid hT2
      have hwk : IntKind.u32.wrap ((k : Int) + 1) = (k : Int) + 1 := IntWalk.u32_in _ (by omega)
      have hwk2 : ((k : Int) + 1) % 4294967296 = (k : Int) + 1 := by omega
      clear hT hF hkp hpk hmin hcl hop hturn hT2
      go_wp2_with fail
      refine HTU.out.mono ?_
      rintro e w2 ⟨rfl, hF2, k2⟩
      have HF2 := Lib.hid hF2
      have K2 := Lib.hid (KW.out.then k2 (fun x hx => .inr (by simp at hx; omega)))
      clear hF2 k2 HTU pn
      go_wp2
      go_roundw
      case rel => exact ⟨k + 1, s2, p, by omega, by go_num, rfl, HT2.out, HF2.out, K2.out⟩
      case measure => simp [intOf]; omega
    · obtain rfl : k = m := by omega
      have hki : ¬ (k : Int) < (k : Int) := by omega
      have HT := Lib.hid hT
      have HFr := Lib.hid hF
      have HL := Lib.hid (Look_ok wr hF hT.down 1 4 (by decide) (by rw [hT.wl]; decide))
      clear hT hF hkp
      go_wp2_with fail
      refine HL.out.mono ?_
      rintro e w2 ⟨g1, cp1, rfl, hg1, hh1, k2⟩
      have HH1 := Lib.hid hh1
      have HF2 := Lib.hid (HFr.out.keeps k2 (by simp) (by simp) (by simp) (by simp))
      have K2 := Lib.hid (KW.out.trans k2)
      have s2z := k2.size
      clear hh1 k2 HL HFr
      -- the power is armed
      have HAR := Lib.hid (Arm_each w2 HF2.out a4 _ l Ml (HR.out.keeps K2.out (by simp)) HT.out.down (by omega) (by have := HNL.out; omega))
      go_wp2_with fail
      refine HAR.out.mono ?_
      rintro e w3 ⟨rfl, M', hF3, k3⟩
      have HF3 := Lib.hid hF3
      have K3 := Lib.hid (K2.out.then k3 (fun x hx => .inr (by simp at hx; omega)))
      have HH3 := Lib.hid (HH1.out.keepsBut k3 (fun g hg => by
        have : g = g1 := by simpa using hg.symm
        simp; omega))
      have s3z := k3.size
      clear hF3 k3 HAR HF2 HH1
      -- one more turn
      obtain ⟨K, rfl, kk1, kk2, hKh⟩ := HT.out.live (by omega)
      obtain ⟨p, p1, p2, pn, hpk, hmin⟩ := pick_turn s 1 4 K (by omega)
      obtain ⟨s', er, hce, hoth, hwl, hcall⟩ := turn_each w3 HF3.out (show (s.arm a4 l).down = false from rfl) 1 4 (by decide) (by show 1 + 4 ≤ s.wear.length; rw [HT.out.wl]; decide) K (BitVec.ofNat 32 (k + 1)) p hpk p2 (HT.out.small (by omega)) (by omega)
      have hoth2 : ∀ j, j ≠ p → sec s'.bs j = sec s.bs j := hoth
      have hwl2 : s'.wear.length = 8 := by rw [hwl]; exact HT.out.wl
      rw [uv_ofNat _ (by omega), show ((k + 1 : Nat) : Int) = (k : Int) + 1 by omega] at hcall
      have HTU := Lib.hid hcall
      have HO := Lib.hid hoth2
      have HCE := Lib.hid hce
      have HKH := Lib.hid hKh
      have hwk : IntKind.u32.wrap ((k : Int) + 1) = (k : Int) + 1 := IntWalk.u32_in _ (by omega)
      have hwk2 : ((k : Int) + 1) % 4294967296 = (k : Int) + 1 := by omega
      have hKi : (K : Int) ≤ 5 := by omega
      have her : er = 0 ∨ er = 12 := by rcases hce with h | h; exact .inl h.1; exact .inr h
      have HER := Lib.hid her
      obtain ⟨P, rfl⟩ : ∃ P, p = P + 1 := ⟨p - 1, by omega⟩
      have hP4 : P < 4 := by omega
      rw [show (((P + 1 : Nat) : Nat) : Int) = (P : Int) + 1 by omega] at HTU pn
      clear hpk hmin hoth hwl hcall hoth2 hce hKh her
      -- the two lists
      have hlw := fun (U : World) (h : FlashAt U F B W M' s'.up) => Look_ok U h rfl 1 4 (by decide) (by show 1 + 4 ≤ s'.wear.length; rw [hwl2]; decide)
      have HLW := Lib.hid hlw
      -- what the newest one is
      have hsame : ∀ j : Nat, j ≠ P + 1 → hdrAt s'.bs j = hdrAt s.bs j := fun j hj => by unfold hdrAt hdrOf; rw [HO.out j hj]
      have HSM := Lib.hid hsame
      have hnew0 : (hdrL (sec s'.bs (P + 1))).1 ≠ 1 ∨ hdrL (sec s'.bs (P + 1)) = hdrL (sec s.bs (P + 1)) → newestL (lookL s'.bs 1 4) = some ⟨K, 1, BitVec.ofNat 32 k⟩ := fun hcs => by
        refine newest_of s'.bs 1 4 K (BitVec.ofNat 32 k) kk1 kk2 (by rw [HO.out K (by omega)]; exact HKH.out) (fun j j1 j2 jK x hx => ?_)
        rw [num_ofNat k (by omega)]
        have hjs : hdrL (sec s.bs j) = (1, x) := by
          by_cases e : j = P + 1
          · subst e
            rcases hcs with h | h
            · rw [hx] at h; exact absurd rfl h
            · rw [← h]; exact hx
          · rw [← HO.out j e]; exact hx
        rcases HT.out.kinds j j1 j2 with q | ⟨y, q, hlt⟩
        · rw [hjs] at q; cases q
        · rw [hjs] at q
          have : x = y := congrArg Prod.snd q
          rw [this]
          exact hlt (by omega)
      have hnew1 : hdrL (sec s'.bs (P + 1)) = (1, BitVec.ofNat 32 (k + 1)) → newestL (lookL s'.bs 1 4) = some ⟨((P + 1 : Nat) : Int), 1, BitVec.ofNat 32 (k + 1)⟩ := fun hcs => by
        refine newest_of s'.bs 1 4 (P + 1) (BitVec.ofNat 32 (k + 1)) p1 p2 hcs (fun j j1 j2 jK x hx => ?_)
        rw [num_ofNat (k + 1) (by omega)]
        rw [HO.out j jK] at hx
        rcases HT.out.kinds j j1 j2 with q | ⟨y, q, hlt⟩
        · rw [hx] at q; cases q
        · rw [hx] at q
          have e : x = y := congrArg Prod.snd q
          by_cases en : (j : Int) = (K : Int)
          · have : j = K := by omega
            subst this
            rw [HKH.out] at hx
            have e2 : BitVec.ofNat 32 k = x := congrArg Prod.snd hx
            rw [← e2, num_ofNat k (by omega)]; omega
          · have := hlt en
            rw [e]; omega
      have HN0 := Lib.hid hnew0
      have HN1 := Lib.hid hnew1
      clear hsame hnew0 hnew1 hlw
      go_wp2_with fail
      refine HTU.out.mono ?_
      rintro e w4 ⟨rfl, hF4, k4⟩
      have HF4 := Lib.hid hF4
      have K4 := Lib.hid (K3.out.then k4 (fun x hx => .inr (by simp at hx; omega)))
      have HH4 := Lib.hid (HH3.out.keepsBut k4 (fun g hg => by
        have : g = g1 := by simpa using hg.symm
        simp; omega))
      have s4z := k4.size
      clear hF4 k4 HTU HF3 HH3
      -- what the sector is, and what it was
      obtain ⟨kz, nz, hz⟩ : ∃ kz nz, hdrL (sec s'.bs (P + 1)) = (kz, nz) := ⟨_, _, rfl⟩
      obtain ⟨kw, nw, hw0⟩ : ∃ kw nw, hdrL (sec s.bs (P + 1)) = (kw, nw) := ⟨_, _, rfl⟩
      have hcase : ((kz.toNat : Int) ≠ 1 ∧ er = 12 ∧ newestL (lookL s'.bs 1 4) = some ⟨K, 1, BitVec.ofNat 32 k⟩) ∨
          ((kz.toNat : Int) = 1 ∧ (nz.toNat : Int) = (k : Int) + 1 ∧ newestL (lookL s'.bs 1 4) = some ⟨((P + 1 : Nat) : Int), 1, BitVec.ofNat 32 (k + 1)⟩) ∨
          ((kz.toNat : Int) = 1 ∧ (nz.toNat : Int) ≠ (k : Int) + 1 ∧ er = 12 ∧ (kw.toNat : Int) = 1 ∧ (nw.toNat : Int) = (nz.toNat : Int) ∧ newestL (lookL s'.bs 1 4) = some ⟨K, 1, BitVec.ofNat 32 k⟩) ∨
          ((kz.toNat : Int) = 1 ∧ (nz.toNat : Int) ≠ (k : Int) + 1 ∧ er = 12 ∧ ¬ ((kz.toNat : Int) = (kw.toNat : Int) ∧ (nz.toNat : Int) = (nw.toNat : Int))) := by
        have one : ∀ c : UInt8, (c.toNat : Int) = 1 ↔ c = 1 := fun c => ⟨fun h => UInt8.toNat_inj.1 (by show c.toNat = 1; omega), fun h => by rw [h]; rfl⟩
        have hbad : er = 0 → kz = 1 ∧ (nz.toNat : Int) = (k : Int) + 1 := fun h => by
          rcases HCE.out with ⟨_, q⟩ | q
          · rw [hz] at q
            have q1 : kz = 1 := congrArg Prod.fst q
            have q2 : nz = BitVec.ofNat 32 (k + 1) := congrArg Prod.snd q
            exact ⟨q1, by rw [q2, num_ofNat _ (by omega)]; omega⟩
          · omega
        by_cases c1 : (kz.toNat : Int) = 1
        · have hk1 := (one kz).1 c1
          by_cases c2 : (nz.toNat : Int) = (k : Int) + 1
          · refine .inr (.inl ⟨c1, c2, HN1.out ?_⟩)
            rw [hz, hk1]
            have : nz = BitVec.ofNat 32 (k + 1) := BitVec.eq_of_toNat_eq (by rw [num_ofNat _ (by omega)]; omega)
            rw [this]
          · have h12 : er = 12 := by
              rcases HER.out with h | h
              · exact absurd (hbad h).2 c2
              · exact h
            by_cases c3 : (kz.toNat : Int) = (kw.toNat : Int) ∧ (nz.toNat : Int) = (nw.toNat : Int)
            · refine .inr (.inr (.inl ⟨c1, c2, h12, by omega, c3.2.symm, HN0.out (.inr ?_)⟩))
              rw [hz, hw0]
              have q1 : kz = kw := UInt8.toNat_inj.1 (by omega)
              have q2 : nz = nw := BitVec.eq_of_toNat_eq (by omega)
              rw [q1, q2]
            · exact .inr (.inr (.inr ⟨c1, c2, h12, c3⟩))
        · have h12 : er = 12 := by
            rcases HER.out with h | h
            · exact absurd ((one kz).2 (hbad h).1) c1
            · exact h
          refine .inl ⟨c1, h12, HN0.out (.inl ?_)⟩
          rw [hz]
          exact fun h => c1 ((one kz).2 h)
      have HCS := Lib.hid hcase
      have HZ := Lib.hid hz
      have HZW := Lib.hid hw0
      have hUp := Up_yes w4 HF4.out
      have HUP := Lib.hid hUp
      clear hcase hz hw0 hUp HN0 HN1 HCE
      obtain ⟨nres, hnr⟩ : ∃ nres, nres = newestL (lookL s'.bs 1 4) := ⟨_, rfl⟩
      rw [← hnr] at HCS
      have HNR := Lib.hid hnr
      clear hnr
      have hb12 : er = 0 ∨ er = 12 := HER.out
      clear HER
      rcases hb12 with rfl | rfl
      all_goals
        go_wp2_with fail
        refine HUP.out.mono ?_
        rintro e w5 ⟨rfl, hF5, k5⟩
        have HF5 := Lib.hid hF5
        have K5 := Lib.hid (K4.out.then k5 (fun x hx => .inr (by simp at hx; omega)))
        have HH5 := Lib.hid (HH4.out.keepsBut k5 (fun g hg => by
          have : g = g1 := by simpa using hg.symm
          simp; omega))
        have s5z := k5.size
        clear hF5 k5 HUP HF4 HH4
        have HL := Lib.hid (HLW.out w5 HF5.out)
        clear HLW
        go_wp2_with fail
        refine HL.out.mono ?_
        rintro e w6 ⟨g2, cp2, rfl, hg2, hh2, k6⟩
        have HH6 := Lib.hid (show HdrsAt w6 (.slice (some ⟨g2, 0, none⟩) 4 cp2) (lookL s'.bs 1 4) from hh2)
        have HW6 := Lib.hid (HH5.out.keeps k6 (by simp))
        have K6 := Lib.hid (K5.out.trans k6)
        clear hh2 k6 HL HF5 HH5
        go_wp2
        go_loopw [20, 116] (fun _ ix wr => ∃ j : Nat, j ≤ 4 ∧ ix = .int .i64 j ∧ Keeps [] w6 wr) (fun _ ix _ => 4 - (intOf ix).toNat)
        case atStart => exact ⟨0, by omega, rfl, Keeps.refl _ _⟩
        case round =>
          obtain ⟨j, hj, rfl, hkj⟩ := hrel
          by_cases hj4 : j < 4
          · have hji : (j : Int) < 4 := by omega
            obtain ⟨x0, x1, x2⟩ := HH6.out.cells j _ (lookL_get s'.bs 1 4 j hj4)
            obtain ⟨y0, y1, y2⟩ := HW6.out.cells j _ (lookL_get s.bs 1 4 j hj4)
            have hsx : (hdrAt s'.bs (1 + j)).sector = 1 + (j : Int) := by show ((1 + j : Nat) : Int) = _; omega
            have hsy : (hdrAt s.bs (1 + j)).sector = 1 + (j : Int) := by show ((1 + j : Nat) : Int) = _; omega
            rw [hsx] at x0
            rw [hsy] at y0
            have x0 := hkj.cell x0 (by simp)
            have x1 := hkj.cell x1 (by simp)
            have x2 := hkj.cell x2 (by simp)
            have y0 := hkj.cell y0 (by simp)
            have y1 := hkj.cell y1 (by simp)
            have y2 := hkj.cell y2 (by simp)
            have HKJ := Lib.hid hkj
            by_cases hjP : j = P
            · subst hjP
              have f1 : (((1 : Int) + (j : Int) != (j : Int) + 1) : Bool) = false := by simp; omega
              generalize ((hdrAt s'.bs (1 + j)).kind.toNat : Int) = xk at *
              generalize ((hdrAt s'.bs (1 + j)).num.toNat : Int) = xn at *
              generalize ((hdrAt s.bs (1 + j)).kind.toNat : Int) = yk at *
              generalize ((hdrAt s.bs (1 + j)).num.toNat : Int) = yn at *
              clear hkj hsx hsy
              go_wp2
              go_quiet (fail)
              go_wp2
              go_roundw
              case rel => exact ⟨j + 1, by omega, by go_num, HKJ.out.trans (Keeps.drewN _ _ _)⟩
              case measure => simp [intOf]; omega
            · have f1 : (((1 : Int) + (j : Int) != (P : Int) + 1) : Bool) = true := by simp; omega
              have hsame := HSM.out (1 + j) (by omega)
              rw [hsame] at x1 x2
              generalize ((hdrAt s.bs (1 + j)).kind.toNat : Int) = yk at *
              generalize ((hdrAt s.bs (1 + j)).num.toNat : Int) = yn at *
              clear hkj hsx hsy hsame
              go_wp2
              go_quiet (fail)
              go_wp2
              go_roundw
              case rel => exact ⟨j + 1, by omega, by go_num, HKJ.out.trans (Keeps.drewN _ _ _)⟩
              case measure => simp [intOf]; omega
          · obtain rfl : j = 4 := by omega
            have HH7 := Lib.hid (HH6.out.keeps hkj (by simp))
            have HW7 := Lib.hid (HW6.out.keeps hkj (by simp))
            have K7 := Lib.hid (K6.out.trans hkj)
            clear hkj HH6 HW6
            obtain ⟨x0, x1, x2⟩ := HH7.out.cells P _ (lookL_get s'.bs 1 4 P hP4)
            obtain ⟨y0, y1, y2⟩ := HW7.out.cells P _ (lookL_get s.bs 1 4 P hP4)
            have hx : hdrAt s'.bs (1 + P) = ⟨1 + (P : Int), kz, nz⟩ := by
              have := HZ.out
              rw [Nat.add_comm] at this
              unfold hdrAt hdrOf
              rw [this]
              congr 1
            have hy : hdrAt s.bs (1 + P) = ⟨1 + (P : Int), kw, nw⟩ := by
              have := HZW.out
              rw [Nat.add_comm] at this
              unfold hdrAt hdrOf
              rw [this]
              congr 1
            rw [hx] at x0 x1 x2
            rw [hy] at y0 y1 y2
            dsimp only at x0 x1 x2 y0 y1 y2
            generalize (kz.toNat : Int) = kzI at *
            generalize (nz.toNat : Int) = nzI at *
            generalize (kw.toNat : Int) = kwI at *
            generalize (nw.toNat : Int) = nwI at *
            have X0 := Lib.hid x0
            have X1 := Lib.hid x1
            have X2 := Lib.hid x2
            have Y0 := Lib.hid y0
            have Y1 := Lib.hid y1
            have Y2 := Lib.hid y2
            have q1 : (((P : Int) + 1 == (K : Int)) : Bool) = false := by simpa using pn
            clear x0 x1 x2 y0 y1 y2 hx hy
            rcases HCS.out with ⟨c1, h12, hnw⟩ | ⟨c1, c2, hnw⟩ | ⟨c1, c2, h12, c3, c4, hnw⟩ | ⟨c1, c2, h12, c3⟩
            · first
              | (exfalso; omega)
              | skip
              all_goals
                have d1 : ((kzI == 1) : Bool) = false := by simpa using c1
                have hN := Newest_any wr _ _ HH7.out (by rw [lookL_length]; decide)
                rw [← HNR.out, hnw] at hN
                dsimp only [Option.getD, Option.isSome, hdrCells] at hN
                rw [uv_ofNat _ (by omega)] at hN
                have HN := Lib.hid hN
                clear hN
                go_wp2_with fail
                refine HN.out.mono ?_
                rintro e w8 ⟨rfl, k8⟩
                have K8 := Lib.hid k8
                clear k8 HN
                go_upto_region 29 with (fail)
                generalize hU : World.alloc w8 _ = U
                have wU : Whole U w8.heap.size 56 [.int .i64 (K : Int), .int .u8 1, .int .u32 (k : Int)] := by rw [← hU]; exact Whole.new w8 56 [_, _, _]
                have kU : Keeps [] wr U := K8.out.trans (by rw [← hU]; exact Keeps.alloc [] _ _)
                have x0 := X0.out
                have x0 := kU.cell X0.out (by simp)
                have x1 := kU.cell X1.out (by simp)
                have x2 := kU.cell X2.out (by simp)
                have WU := Lib.hid wU
                have KU := Lib.hid kU
                clear hU wU kU K8
                go_upto_region 30 with (fail)
                generalize hV : World.alloc U _ = V
                have wV : Whole V U.heap.size 56 [.int .i64 (1 + (P : Int)), .int .u8 kzI, .int .u32 nzI] := by rw [← hV]; exact Whole.new U 56 [_, _, _]
                have kV : Keeps [] U V := by rw [← hV]; exact Keeps.alloc [] _ _
                have wU2 := WU.out.keeps kV (by simp)
                have c0 := (wU2.cell 0).trans (show _ = some (Value.int .i64 (K : Int)) from rfl)
                have c2 := (wU2.cell 2).trans (show _ = some (Value.int .u32 (k : Int)) from rfl)
                have t0 := (wV.cell 0).trans (show _ = some (Value.int .i64 (1 + (P : Int))) from rfl)
                have t1 := (wV.cell 1).trans (show _ = some (Value.int .u8 kzI) from rfl)
                have t2 := (wV.cell 2).trans (show _ = some (Value.int .u32 nzI) from rfl)
                have y0 := (KU.out.trans kV).cell Y0.out (by simp)
                have y1 := (KU.out.trans kV).cell Y1.out (by simp)
                have y2 := (KU.out.trans kV).cell Y2.out (by simp)
                have KV := Lib.hid (K7.out.trans (KU.out.trans kV))
                clear hV wV kV wU2 WU KU x0 x1 x2
                go_wp2
                go_quiet (fail)
                generalize hV2 : World.drewN V _ = V2
                have KV2 := Lib.hid (show Keeps [] w V2 from KV.out.trans (by rw [← hV2]; exact Keeps.drewN _ _ _))
                have c0 : V2.cell? ⟨w8.heap.size, 0, none⟩ = some (Value.int .i64 (K : Int)) := by rw [← hV2]; exact (Keeps.drewN [] V _).cell c0 (by simp)
                have c2 : V2.cell? ⟨w8.heap.size, 2, none⟩ = some (Value.int .u32 (k : Int)) := by rw [← hV2]; exact (Keeps.drewN [] V _).cell c2 (by simp)
                clear hV2 t0 t1 t2 y0 y1 y2
                go_wp2_with (go_at_call 29; refine (awake5_any _).mono ?_; rintro e w9 ⟨rfl, k9⟩; have K9 := Lib.hid k9; clear k9)
                go_ret
                exact ⟨rfl, KV2.out.trans K9.out⟩
            · subst c1
              subst c2
              have hN := Newest_any wr _ _ HH7.out (by rw [lookL_length]; decide)
              rw [← HNR.out, hnw] at hN
              dsimp only [Option.getD, Option.isSome, hdrCells] at hN
              rw [uv_ofNat _ (by omega), show ((k + 1 : Nat) : Int) = (k : Int) + 1 by omega, show ((P + 1 : Nat) : Int) = (P : Int) + 1 by omega] at hN
              have HN := Lib.hid hN
              clear hN
              go_wp2_with fail
              refine HN.out.mono ?_
              rintro e w8 ⟨rfl, k8⟩
              have K8 := Lib.hid k8
              clear k8 HN
              go_upto_region 29 with (fail)
              generalize hU : World.alloc w8 _ = U
              have wU : Whole U w8.heap.size 56 [.int .i64 ((P : Int) + 1), .int .u8 1, .int .u32 ((k : Int) + 1)] := by rw [← hU]; exact Whole.new w8 56 [_, _, _]
              have kU : Keeps [] wr U := K8.out.trans (by rw [← hU]; exact Keeps.alloc [] _ _)
              have x0 := X0.out
              have x0 := kU.cell X0.out (by simp)
              have x1 := kU.cell X1.out (by simp)
              have x2 := kU.cell X2.out (by simp)
              have WU := Lib.hid wU
              have KU := Lib.hid kU
              clear hU wU kU K8
              go_upto_region 30 with (fail)
              generalize hV : World.alloc U _ = V
              have wV : Whole V U.heap.size 56 [.int .i64 (1 + (P : Int)), .int .u8 1, .int .u32 ((k : Int) + 1)] := by rw [← hV]; exact Whole.new U 56 [_, _, _]
              have kV : Keeps [] U V := by rw [← hV]; exact Keeps.alloc [] _ _
              have wU2 := WU.out.keeps kV (by simp)
              have c0 := (wU2.cell 0).trans (show _ = some (Value.int .i64 ((P : Int) + 1)) from rfl)
              have c2 := (wU2.cell 2).trans (show _ = some (Value.int .u32 ((k : Int) + 1)) from rfl)
              have t0 := (wV.cell 0).trans (show _ = some (Value.int .i64 (1 + (P : Int))) from rfl)
              have t1 := (wV.cell 1).trans (show _ = some (Value.int .u8 1) from rfl)
              have t2 := (wV.cell 2).trans (show _ = some (Value.int .u32 ((k : Int) + 1)) from rfl)
              have y0 := (KU.out.trans kV).cell Y0.out (by simp)
              have y1 := (KU.out.trans kV).cell Y1.out (by simp)
              have y2 := (KU.out.trans kV).cell Y2.out (by simp)
              have KV := Lib.hid (K7.out.trans (KU.out.trans kV))
              clear hV wV kV wU2 WU KU x0 x1 x2
              go_wp2
              go_quiet (fail)
              generalize hV2 : World.drewN V _ = V2
              have KV2 := Lib.hid (show Keeps [] w V2 from KV.out.trans (by rw [← hV2]; exact Keeps.drewN _ _ _))
              have c0 : V2.cell? ⟨w8.heap.size, 0, none⟩ = some (Value.int .i64 ((P : Int) + 1)) := by rw [← hV2]; exact (Keeps.drewN [] V _).cell c0 (by simp)
              have c2 : V2.cell? ⟨w8.heap.size, 2, none⟩ = some (Value.int .u32 ((k : Int) + 1)) := by rw [← hV2]; exact (Keeps.drewN [] V _).cell c2 (by simp)
              clear hV2 t0 t1 t2 y0 y1 y2
              go_wp2_with (go_at_call 29; refine (awake5_any _).mono ?_; rintro e w9 ⟨rfl, k9⟩; have K9 := Lib.hid k9; clear k9)
              go_ret
              exact ⟨rfl, KV2.out.trans K9.out⟩
            · first
              | (exfalso; omega)
              | skip
              all_goals
                subst c1
                subst c3
                subst c4
                have d2 : ((nwI != (k : Int) + 1) : Bool) = true := by simpa using c2
                have hN := Newest_any wr _ _ HH7.out (by rw [lookL_length]; decide)
                rw [← HNR.out, hnw] at hN
                dsimp only [Option.getD, Option.isSome, hdrCells] at hN
                rw [uv_ofNat _ (by omega)] at hN
                have HN := Lib.hid hN
                clear hN
                go_wp2_with fail
                refine HN.out.mono ?_
                rintro e w8 ⟨rfl, k8⟩
                have K8 := Lib.hid k8
                clear k8 HN
                go_upto_region 29 with (fail)
                generalize hU : World.alloc w8 _ = U
                have wU : Whole U w8.heap.size 56 [.int .i64 (K : Int), .int .u8 1, .int .u32 (k : Int)] := by rw [← hU]; exact Whole.new w8 56 [_, _, _]
                have kU : Keeps [] wr U := K8.out.trans (by rw [← hU]; exact Keeps.alloc [] _ _)
                have x0 := X0.out
                have x0 := kU.cell X0.out (by simp)
                have x1 := kU.cell X1.out (by simp)
                have x2 := kU.cell X2.out (by simp)
                have WU := Lib.hid wU
                have KU := Lib.hid kU
                clear hU wU kU K8
                go_upto_region 30 with (fail)
                generalize hV : World.alloc U _ = V
                have wV : Whole V U.heap.size 56 [.int .i64 (1 + (P : Int)), .int .u8 1, .int .u32 nwI] := by rw [← hV]; exact Whole.new U 56 [_, _, _]
                have kV : Keeps [] U V := by rw [← hV]; exact Keeps.alloc [] _ _
                have wU2 := WU.out.keeps kV (by simp)
                have c0 := (wU2.cell 0).trans (show _ = some (Value.int .i64 (K : Int)) from rfl)
                have c2 := (wU2.cell 2).trans (show _ = some (Value.int .u32 (k : Int)) from rfl)
                have t0 := (wV.cell 0).trans (show _ = some (Value.int .i64 (1 + (P : Int))) from rfl)
                have t1 := (wV.cell 1).trans (show _ = some (Value.int .u8 1) from rfl)
                have t2 := (wV.cell 2).trans (show _ = some (Value.int .u32 nwI) from rfl)
                have y0 := (KU.out.trans kV).cell Y0.out (by simp)
                have y1 := (KU.out.trans kV).cell Y1.out (by simp)
                have y2 := (KU.out.trans kV).cell Y2.out (by simp)
                have KV := Lib.hid (K7.out.trans (KU.out.trans kV))
                clear hV wV kV wU2 WU KU x0 x1 x2
                go_wp2
                go_quiet (fail)
                generalize hV2 : World.drewN V _ = V2
                have KV2 := Lib.hid (show Keeps [] w V2 from KV.out.trans (by rw [← hV2]; exact Keeps.drewN _ _ _))
                have c0 : V2.cell? ⟨w8.heap.size, 0, none⟩ = some (Value.int .i64 (K : Int)) := by rw [← hV2]; exact (Keeps.drewN [] V _).cell c0 (by simp)
                have c2 : V2.cell? ⟨w8.heap.size, 2, none⟩ = some (Value.int .u32 (k : Int)) := by rw [← hV2]; exact (Keeps.drewN [] V _).cell c2 (by simp)
                clear hV2 t0 t1 t2 y0 y1 y2
                go_wp2_with (go_at_call 29; refine (awake5_any _).mono ?_; rintro e w9 ⟨rfl, k9⟩; have K9 := Lib.hid k9; clear k9)
                go_ret
                exact ⟨rfl, KV2.out.trans K9.out⟩
            · first
              | (exfalso; omega)
              | skip
              all_goals
                subst c1
                have d2 : ((nzI != (k : Int) + 1) : Bool) = true := by simpa using c2
                have d3 := fun w => hdr_differ w (1 + (P : Int)) 1 nzI (1 + (P : Int)) kwI nwI (fun h => c3 h.2)
                have hN := Newest_any wr _ _ HH7.out (by rw [lookL_length]; decide)
                rw [← HNR.out] at hN
                generalize nres.getD ⟨0, 0, 0#32⟩ = c at hN
                obtain ⟨xs, xk0, xn0⟩ := c
                dsimp only [hdrCells] at hN
                unfold uv at hN
                generalize (xk0.toNat : Int) = xk at hN
                generalize (xn0.toNat : Int) = xn at hN
                generalize nres.isSome = xb at hN
                have HN := Lib.hid hN
                clear hN
                go_wp2_with fail
                refine HN.out.mono ?_
                rintro e w8 ⟨rfl, k8⟩
                have K8 := Lib.hid k8
                clear k8 HN
                go_upto_region 29 with (fail)
                generalize hU : World.alloc w8 _ = U
                have wU : Whole U w8.heap.size 56 [.int .i64 xs, .int .u8 xk, .int .u32 xn] := by rw [← hU]; exact Whole.new w8 56 [_, _, _]
                have kU : Keeps [] wr U := K8.out.trans (by rw [← hU]; exact Keeps.alloc [] _ _)
                have x0 := X0.out
                have x0 := kU.cell X0.out (by simp)
                have x1 := kU.cell X1.out (by simp)
                have x2 := kU.cell X2.out (by simp)
                have WU := Lib.hid wU
                have KU := Lib.hid kU
                clear hU wU kU K8
                go_upto_region 30 with (fail)
                generalize hV : World.alloc U _ = V
                have wV : Whole V U.heap.size 56 [.int .i64 (1 + (P : Int)), .int .u8 1, .int .u32 nzI] := by rw [← hV]; exact Whole.new U 56 [_, _, _]
                have kV : Keeps [] U V := by rw [← hV]; exact Keeps.alloc [] _ _
                have wU2 := WU.out.keeps kV (by simp)
                have c0 := (wU2.cell 0).trans (show _ = some (Value.int .i64 xs) from rfl)
                have c2 := (wU2.cell 2).trans (show _ = some (Value.int .u32 xn) from rfl)
                have t0 := (wV.cell 0).trans (show _ = some (Value.int .i64 (1 + (P : Int))) from rfl)
                have t1 := (wV.cell 1).trans (show _ = some (Value.int .u8 1) from rfl)
                have t2 := (wV.cell 2).trans (show _ = some (Value.int .u32 nzI) from rfl)
                have y0 := (KU.out.trans kV).cell Y0.out (by simp)
                have y1 := (KU.out.trans kV).cell Y1.out (by simp)
                have y2 := (KU.out.trans kV).cell Y2.out (by simp)
                have KV := Lib.hid (K7.out.trans (KU.out.trans kV))
                clear hV wV kV wU2 WU KU x0 x1 x2
                go_wp2
                go_quiet (fail)
                generalize hV2 : World.drewN V _ = V2
                have KV2 := Lib.hid (show Keeps [] w V2 from KV.out.trans (by rw [← hV2]; exact Keeps.drewN _ _ _))
                have c0 : V2.cell? ⟨w8.heap.size, 0, none⟩ = some (Value.int .i64 xs) := by rw [← hV2]; exact (Keeps.drewN [] V _).cell c0 (by simp)
                have c2 : V2.cell? ⟨w8.heap.size, 2, none⟩ = some (Value.int .u32 xn) := by rw [← hV2]; exact (Keeps.drewN [] V _).cell c2 (by simp)
                clear hV2 t0 t1 t2 y0 y1 y2
                go_wp2_with (go_at_call 29; refine (awake5_any _).mono ?_; rintro e w9 ⟨rfl, k9⟩; have K9 := Lib.hid k9; clear k9)
                go_ret
                exact ⟨rfl, KV2.out.trans K9.out⟩

theorem RingTorn_all (w : World) (a b : Int) (v : Value) (l : List UInt8) (Ml : Nat) (hr : Reads w v l Ml) (ha : (Lit.int .u8 a).wf = true) (hb : (Lit.int .u8 b).wf = true) :
    Calls Try.prog 7 #[.int .u8 a, .int .u8 b, v] w fun e w' => e = .returned (.bool true) ∧ Keeps [] w w' := by
  by_cases hl : l.length ≤ 300
  · exact RingTorn_short w a b v l Ml hr hl (bounds_u8 ha) (bounds_u8 hb)
  · obtain ⟨x, cap, rfl, _⟩ := hr.shape
    exact RingTorn_long w a b x _ cap (by omega)
end Go.Proofs.Ytdcfcljgennipaa
