/-
  RingTurns, walked.
-/
import Derived.Test.YtdcfcljgennipaaRingTurnB
namespace Go.Proofs.Ytdcfcljgennipaa
open Go.RowKit

theorem Turned.small {N first n : Nat} {now : Int} {i : Nat} {s : FS} (h : Turned N first n now i s) (hi : i < 1000) : ∀ x ∈ s.wear, 0 ≤ x ∧ x < 9223372036854775807 := fun x hx => by
  have := h.wears x hx; omega

theorem uv_ofNat (i : Nat) (hi : i < 100000) : uv (BitVec.ofNat 32 i) = .int .u32 (i : Int) := by
  show Value.int .u32 _ = _
  rw [num_ofNat i hi]

set_option maxRecDepth 100000 in
set_option maxHeartbeats 2000000 in
theorem RingTurns_any (w : World) (c0 f0 t0 : Int) (hc : 0 ≤ c0 ∧ c0 ≤ 255) (hf : 0 ≤ f0 ∧ f0 ≤ 255) (ht : 0 ≤ t0 ∧ t0 ≤ 255) :
    Calls Try.prog 6 #[.int .u8 c0, .int .u8 f0, .int .u8 t0] w fun e w' => e = .returned (.bool true) ∧ Keeps [] w w' := by
  obtain ⟨C, rfl⟩ := Int.eq_ofNat_of_zero_le hc.1
  obtain ⟨E, rfl⟩ := Int.eq_ofNat_of_zero_le hf.1
  obtain ⟨T, rfl⟩ := Int.eq_ofNat_of_zero_le ht.1
  obtain ⟨c, hcc⟩ : ∃ c, c = C % 10 := ⟨_, rfl⟩
  obtain ⟨n, hn⟩ : ∃ n, n = 3 + c := ⟨_, rfl⟩
  obtain ⟨d, hd⟩ : ∃ d, d = 17 - n := ⟨_, rfl⟩
  obtain ⟨fi, hfi⟩ : ∃ f, f = E % d := ⟨_, rfl⟩
  obtain ⟨m, hm⟩ : ∃ m, m = T % 201 := ⟨_, rfl⟩
  have hn3 : 3 ≤ n := by omega
  have hn12 : n ≤ 12 := by omega
  have hd5 : 5 ≤ d := by omega
  have hfd : fi < d := by rw [hfi]; exact Nat.mod_lt _ (by omega)
  have hfit : fi + n ≤ 16 := by omega
  have hm2 : m ≤ 200 := by omega
  have e1 : (C : Int) % 10 = (c : Int) := by omega
  have e2 : (C : Int).tmod 10 = (c : Int) := by rw [Int.tmod_eq_emod_of_nonneg (by omega)]; exact e1
  have e3 : (3 : Int) + (c : Int) = (n : Int) := by omega
  have e4 : (17 : Int) - (n : Int) = (d : Int) := by omega
  have e5 : (E : Int) % (d : Int) = (fi : Int) := by rw [hfi]; exact (Int.natCast_emod _ _).symm
  have e6 : (E : Int).tmod (d : Int) = (fi : Int) := by rw [Int.tmod_eq_emod_of_nonneg (by omega)]; exact e5
  have e7 : (T : Int) % 201 = (m : Int) := by omega
  have e8 : (T : Int).tmod 201 = (m : Int) := by rw [Int.tmod_eq_emod_of_nonneg (by omega)]; exact e7
  have hC : C < 256 := by omega
  have hE : E < 256 := by omega
  have hT : T < 256 := by omega
  have hd0 : ¬ (d : Int) = 0 := by omega
  have hdp : (0 : Int) < (d : Int) := by omega
  have hd12 : (d : Int) ≤ 14 := by omega
  have hni : (n : Int) ≤ 12 := by omega
  have hfi2 : (fi : Int) ≤ 16 := by omega
  have hci : (c : Int) ≤ 9 := by omega
  clear hcc hn hd hfi hm hc hf ht hfd
  go_enter Try.func6, Try.ntmps6
  go_wp2_with fail
  refine (New_ok w 16 (by decide) (by decide)).mono ?_
  rintro e w1 ⟨F, B, W, M, rfl, hF0, hB0, hW0, hF, k1⟩
  have HT0 := Lib.hid (Turned.new 16 fi n hfit)
  generalize FS.new 16 = s0 at *
  have HF := Lib.hid hF
  have K1 := Lib.hid k1
  have hlt := hF.lt
  clear hF k1
  go_wp2
  go_loopw [11, 12, 13, 14, 15, 16, 17, 18, 37] (fun nv _ _ _ _ _ _ _ ix wr => ∃ (k : Nat) (s : FS) (now : Int), k ≤ m ∧ ix = .int .i64 k ∧ nv = .int .i64 now ∧ Turned 16 fi n now k s ∧ FlashAt wr F B W M s ∧ Keeps [] w wr) (fun _ _ _ _ _ _ _ _ ix _ => m - (intOf ix).toNat)
  case atStart => exact ⟨0, s0, -1, by omega, rfl, rfl, HT0.out, HF.out, K1.out⟩
  case round =>
    obtain ⟨k, s, now, hk, rfl, rfl, hT, hF, hkp⟩ := hrel
    have KW := Lib.hid hkp
    have szw := hkp.size
    have hl2 := hF.lt
    by_cases hkm : k < m
    · have hki : (k : Int) < (m : Int) := by omega
      obtain ⟨p, p1, p2, pn, hpk, hmin⟩ := pick_turn s fi n now (by omega)
      obtain ⟨s1, s2, hcl, hop, hT2⟩ := hT.step (by omega) p p1 p2 pn hmin
      have hturn := turn5_ok wr hF hT.down fi n hn3 (by rw [hT.wl]; exact hfit) now (BitVec.ofNat 32 (k + 1)) _ p rfl hpk (hT.small (by omega)) s1 s2 0 hcl hop (by omega)
      rw [uv_ofNat _ (by omega), show ((k + 1 : Nat) : Int) = (k : Int) + 1 by omega] at hturn
      have HTU := Lib.hid hturn
      have HT2 := Lib.hid hT2
      have hwk : IntKind.u32.wrap ((k : Int) + 1) = (k : Int) + 1 := IntWalk.u32_in _ (by omega)
      have hwk2 : ((k : Int) + 1) % 4294967296 = (k : Int) + 1 := by omega
      have q1 : (((p : Int) == now) : Bool) = false := by simpa using pn
      have q2 : ¬ (p : Int) < (fi : Int) := by omega
      have q3 : ¬ (fi : Int) + (n : Int) ≤ (p : Int) := by omega
      have q4 : ¬ (p : Int) = now := pn
      clear hT hF hkp hpk hmin hcl hop hturn hT2
      go_wp2_with fail
      refine HTU.out.mono ?_
      rintro e w2 ⟨rfl, hF2, k2⟩
      have HF2 := Lib.hid hF2
      have K2 := Lib.hid (KW.out.then k2 (fun x hx => .inr (by simp at hx; omega)))
      have s2z := k2.size
      clear hF2 k2 HTU pn
      have HL := Lib.hid (Look_ok w2 HF2.out HT2.out.down fi n hn3 (by rw [HT2.out.wl]; exact hfit))
      go_wp2_with fail
      refine HL.out.mono ?_
      rintro e w3 ⟨g, cp, rfl, hg, hh, k3⟩
      have hN := Newest_any w3 _ _ hh (by rw [lookL_length]; omega)
      rw [HT2.out.newest (by omega) (by omega)] at hN
      dsimp only [Option.getD, Option.isSome, hdrCells] at hN
      rw [uv_ofNat _ (by omega), show ((k + 1 : Nat) : Int) = (k : Int) + 1 by omega] at hN
      have HN := Lib.hid hN
      have HF3 := Lib.hid (HF2.out.keeps k3 (by simp) (by simp) (by simp) (by simp))
      have K3 := Lib.hid (K2.out.trans k3)
      clear hh hN k3 HL HF2
      go_wp2_with fail
      refine HN.out.mono ?_
      rintro e w4 ⟨rfl, k4⟩
      go_upto_region 16 with (fail)
      generalize hU : World.alloc w4 _ = U
      have wU : Whole U w4.heap.size 56 [.int .i64 p, .int .u8 1, .int .u32 ((k : Int) + 1)] := by rw [← hU]; exact Whole.new w4 56 [_, _, _]
      have c0 := (wU.cell 0).trans (show _ = some (Value.int .i64 (p : Int)) from rfl)
      have c2 := (wU.cell 2).trans (show _ = some (Value.int .u32 ((k : Int) + 1)) from rfl)
      have kU : Keeps [] w3 U := k4.trans (by rw [← hU]; exact Keeps.alloc [] _ _)
      have HFU := Lib.hid (HF3.out.keeps kU (by simp) (by simp) (by simp) (by simp))
      have KU := Lib.hid (K3.out.trans kU)
      have HSP := Lib.hid (spread5_any U HFU.out fi n (by omega) (by omega) (fun q => by have := HT2.out.bound q; omega) (fun x y hx hy => HT2.out.spread x y hx hy))
      clear hU wU kU k4 HN HF3
      go_wp2_with (go_at_call 40; refine HSP.out.mono ?_; rintro e w' ⟨sd, rfl, hsd, rfl⟩; have hsd2 : ¬ (2 : Int) < sd := by omega)
      go_roundw
      case rel => exact ⟨k + 1, s2, p, by omega, by go_num, rfl, HT2.out, HFU.out, KU.out⟩
      case measure => simp [intOf]; omega
    · have hki : ¬ (k : Int) < (m : Int) := by omega
      clear hT hF
      go_wp2_with (go_at_call 29; refine (awake5_any _).mono ?_; rintro e w2 ⟨rfl, k2⟩; have K2 := Lib.hid k2; clear k2)
      go_ret
      exact ⟨rfl, KW.out.trans K2.out⟩

theorem RingTurns_all (w : World) (a b c : Int) (ha : (Lit.int .u8 a).wf = true) (hb : (Lit.int .u8 b).wf = true) (hc : (Lit.int .u8 c).wf = true) :
    Calls Try.prog 6 #[.int .u8 a, .int .u8 b, .int .u8 c] w fun e w' => e = .returned (.bool true) ∧ Keeps [] w w' :=
  RingTurns_any w a b c (bounds_u8 ha) (bounds_u8 hb) (bounds_u8 hc)
end Go.Proofs.Ytdcfcljgennipaa
