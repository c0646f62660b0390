/-
  RecordBits, walked.
-/
import Derived.Test.YtjdjjcpglcoojaaRecN
import Derived.Test.YtjdjjcpglcoojaaRecWholeA
namespace Go.Proofs.Ytjdjjcpglcoojaa
open Go.RowKit

theorem rec_zero (p : List UInt8) (j : Nat) (hj : j < 4) : (recB p)[8 + fillN p.length + j]? = some 0 := by
  have e : recB p = (headB p.length ++ bodyB p) ++ [0, 0, 0, 0] := by unfold recB; rw [List.append_assoc]
  have hl : (headB p.length ++ bodyB p).length = 8 + fillN p.length := by simp [headB_length, bodyB_length]; omega
  rw [e, List.getElem?_append_right (by omega), hl, Nat.add_sub_cancel_left]
  match j, hj with
  | 0, _ => rfl
  | 1, _ => rfl
  | 2, _ => rfl
  | 3, _ => rfl

theorem atL_ne {b : List UInt8} {j : Nat} (h : b[j]? = some 0) : atL b = firstL b := by
  unfold atL
  rw [if_neg]
  intro h0
  have := (written_zero b).1 h0 0 (List.mem_iff_getElem?.2 ⟨j, h⟩)
  cases this

theorem atL_rec (p : List UInt8) (hp : p.length ≤ 4080) : atL (recB p) = ⟨sizeN p.length, 1, p⟩ := by
  rw [atL_ne (rec_zero p 0 (by decide))]
  have := firstL_rec p [] hp
  rwa [List.append_nil] at this

/-- What stands where a byte of a record was changed. -/
theorem atL_changed (p : List UInt8) (hp : p.length ≤ 4080) (i : Nat) (c d : UInt8) (hd : (recB p)[i]? = some d) (hc : c ≠ d) :
    ∃ z kd, atL ((recB p).set i c) = ⟨z, kd, []⟩ ∧ (kd = 2 ∨ kd = 3) := by
  have hz : ∃ j : Nat, ((recB p).set i c)[j]? = some 0 := by
    by_cases h : i = 8 + fillN p.length
    · exact ⟨8 + fillN p.length + 1, by rw [List.getElem?_set_ne (by omega)]; exact rec_zero p 1 (by decide)⟩
    · exact ⟨8 + fillN p.length, by rw [List.getElem?_set_ne h]; exact rec_zero p 0 (by decide)⟩
  obtain ⟨j, hj⟩ := hz
  have hk := rec_changed p hp i c d hd hc
  have h3 := firstL_kind ((recB p).set i c)
  have hpy := firstL_pay _ hk
  refine ⟨(firstL ((recB p).set i c)).size, (firstL ((recB p).set i c)).kind, ?_, ?_⟩
  · rw [atL_ne hj, ← hpy]
  · rcases h3 with h | h | h
    · exact absurd h hk
    · exact .inl h
    · exact .inr h

theorem put_part (bs : List UInt8) (l : List UInt8) : ((put bs 0 l).drop 0).take l.length = l := by
  unfold put
  rw [List.drop_zero, List.take_zero, List.nil_append, List.take_append_of_le_length (Nat.le_refl _), List.take_length]

set_option maxRecDepth 100000 in
set_option maxHeartbeats 1000000 in
theorem RecordBits_long (w : World) (x : Option Addr) (n cap : Nat) (a1 a2 : Int) (hn : 1000 < n) :
    Calls Try.prog 7 #[.slice x n cap, .int .u16 a1, .int .u8 a2] w fun e w' => e = .returned (.bool true) ∧ Keeps [] w w' := by
  go_enter Try.func7, Try.ntmps7
  go_wp2_with fail
  refine (New_ok w 8 (by decide) (by decide)).mono ?_
  rintro e w1 ⟨F, B, W, M, rfl, hF0, hB0, hW0, hF, k1⟩
  have K1 := Lib.hid k1
  clear k1 hF
  go_wp2_with (go_at_call 9; refine (awake4_any _).mono ?_; rintro e w2 ⟨rfl, k2⟩; have K2 := Lib.hid k2; clear k2)
  go_ret
  exact ⟨rfl, K1.out.trans K2.out⟩

set_option maxRecDepth 100000 in
set_option maxHeartbeats 1000000 in
theorem RecordBits_short (w : World) (v : Value) (p : List UInt8) (Mp : Nat) (a1 a2 : Int) (rp : Reads w v p Mp) (hp : p.length ≤ 1000) (h1 : 0 ≤ a1 ∧ a1 ≤ 65535) (h2 : 0 ≤ a2 ∧ a2 ≤ 255) :
    Calls Try.prog 7 #[v, .int .u16 a1, .int .u8 a2] w fun e w' => e = .returned (.bool true) ∧ Keeps [] w w' := by
  obtain ⟨x, cap, rfl, hcap⟩ := rp.shape
  have RP := Lib.hid rp
  obtain ⟨n, hn⟩ : ∃ n, n = p.length := ⟨_, rfl⟩
  have HN := Lib.hid hn
  have hfl := fillN_lt p.length
  obtain ⟨z, hz⟩ : ∃ z, z = sizeN p.length := ⟨_, rfl⟩
  have hz5 : z ≤ 1020 := by rw [hz]; unfold sizeN; omega
  have hz0 : 12 ≤ z := by rw [hz]; unfold sizeN; omega
  have HZ := Lib.hid hz
  have hfld := fld_kind
  -- the place, and the byte there
  obtain ⟨i, hi⟩ : ∃ i : Nat, a1 % (z : Int) = (i : Int) := ⟨(a1 % (z : Int)).toNat, by have := Int.emod_nonneg a1 (show (z : Int) ≠ 0 by omega); omega⟩
  have hiz : i < z := by have := Int.emod_lt_of_pos a1 (show (0 : Int) < (z : Int) by omega); omega
  have hi2 : a1.tmod (z : Int) = (i : Int) := by rw [Int.tmod_eq_emod_of_nonneg (by omega)]; exact hi
  have hib : i < (recB p).length := by rw [recB_length, ← hz]; exact hiz
  obtain ⟨d, hd⟩ : ∃ d, (recB p)[i]? = some d := ⟨_, List.getElem?_eq_getElem hib⟩
  obtain ⟨y, hy⟩ : ∃ y : Nat, a2 % 255 = (y : Int) := ⟨(a2 % 255).toNat, by omega⟩
  have hy2 : a2.tmod 255 = (y : Int) := by rw [Int.tmod_eq_emod_of_nonneg (by omega)]; exact hy
  have hy3 : y ≤ 254 := by omega
  obtain ⟨c, hc⟩ : ∃ c : UInt8, c = UInt8.ofNat (d.toNat + (1 + y)) := ⟨_, rfl⟩
  have hcn : c.toNat = (d.toNat + (1 + y)) % 256 := by rw [hc, ofNat_toNat]
  have hdl : d.toNat < 256 := d.toNat_lt
  have hcd : c ≠ d := by intro e; rw [e] at hcn; omega
  obtain ⟨zz, kd, hat, hkd⟩ := atL_changed p (by omega) i c d hd hcd
  have w1' : IntKind.i64.wrap a1 = a1 := IntWalk.i64_in _ (by omega)
  have w2' : IntKind.u8.wrap (1 + (y : Int)) = 1 + (y : Int) := by show (1 + (y : Int)) % 256 = _; omega
  have w2'' : (1 + (y : Int)) % 256 = 1 + (y : Int) := by omega
  have w3' : IntKind.u8.wrap ((d.toNat : Int) + (1 + (y : Int))) = (c.toNat : Int) := by show ((d.toNat : Int) + (1 + (y : Int))) % 256 = _; rw [hcn]; omega
  have w3'' : ((d.toNat : Int) + (1 + (y : Int))) % 256 = (c.toNat : Int) := w3'
  have HAT := Lib.hid hat
  have HD := Lib.hid hd
  have hzi : (0 : Int) < (z : Int) := by omega
  have hzne : ¬ (z : Int) = 0 := by omega
  have hilt : (i : Int) < (z : Int) := by omega
  have hS := fun w => Size_ok w n (by omega)
  rw [show sizeN n = z by rw [hn, ← hz]] at hS
  have HS := Lib.hid hS
  rw [← hn] at hp hcap ⊢
  clear rp hn hz hib hd hc hcn hcd hat hfl hS
  go_enter Try.func7, Try.ntmps7
  go_wp2_with fail
  refine (New_ok w 8 (by decide) (by decide)).mono ?_
  rintro e w1 ⟨F, B, W, M, rfl, hF0, hB0, hW0, hF, k1⟩
  have hs0 := fresh8
  generalize FS.new 8 = s at *
  have hwr := write_blank (s := s) 0 p (by have := HN.out; omega) hs0.down hs0.armed rfl (by rw [hs0.len, ← HZ.out]; omega) (hs0.from 0)
  have hput : ({ s with bs := put s.bs 0 (recB p) } : FS).part (0 : Int) (z : Int) = recB p := by
    show ((put s.bs 0 (recB p)).drop 0).take z = recB p
    rw [HZ.out, ← recB_length]
    exact put_part _ _
  have hhas : ({ s with bs := put s.bs 0 (recB p) } : FS).has (0 : Int) (z : Int) := by
    unfold FS.has
    simp only
    rw [put_length _ _ _ (by rw [recB_length, ← HZ.out, hs0.len]; omega), hs0.len]
    omega
  have hdn : ({ s with bs := put s.bs 0 (recB p) } : FS).down = false := hs0.down
  have hW := Write_any w1 hF 0 _ p Mp (RP.out.keeps k1 (by simp)) (by have := HN.out; omega)
  rw [show ((0 : Nat) : Int) = 0 from rfl] at hwr
  rw [hwr] at hW
  generalize ({ s with bs := put s.bs 0 (recB p) } : FS) = s1 at *
  have HW := Lib.hid hW
  have K1 := Lib.hid k1
  have HP := Lib.hid hput
  have HH := Lib.hid hhas
  have HDN := Lib.hid hdn
  rw [← HN.out] at HW
  clear hF hs0 hwr hW k1 hput hhas hdn RP
  go_wp2_with fail
  refine HW.out.mono ?_
  rintro e w2 ⟨rfl, hF2, k2⟩
  have HF2 := Lib.hid hF2
  have K2 := Lib.hid (K1.out.then k2 (fun x hx => .inr (by simp at hx; omega)))
  clear hF2 k2 HW
  go_wp2_with fail
  refine (HS.out _).mono ?_
  rintro e w' ⟨rfl, rfl⟩
  go_wp2_with fail
  refine (Read_ok _ HF2.out 0 z HDN.out HH.out).mono ?_
  rintro e w3 ⟨b, cp, rfl, hb3, hr3, k3⟩
  rw [HP.out] at hr3
  rw [Int.toNat_natCast]
  have hrd := hr3.reads
  rw [recB_length, ← HZ.out] at hrd
  have hA := At_any w3 _ (recB p) b hrd (by rw [recB_length, ← HZ.out]; omega)
  rw [atL_rec p (by have := HN.out; omega)] at hA
  have HA := Lib.hid hA
  have HR3 := Lib.hid hr3
  have K3 := Lib.hid (K2.out.trans k3)
  have hcpz : z ≤ cp := by have := hr3.room; rwa [List.length_map, recB_length, ← HZ.out] at this
  clear hr3 hrd hA HF2
  go_wp2_with fail
  refine HA.out.mono ?_
  rintro e w4 ⟨pa, pn, pc, rfl, _, k4⟩
  dsimp only [recCells]
  have hr4 := HR3.out.keeps k4 (by simp)
  have K4 := Lib.hid (K3.out.trans k4)
  have hc4 := hr4.cell i (v := .int .u8 (d.toNat : Int)) (by rw [List.getElem?_map, HD.out]; rfl)
  have hf4 := hr4.frozen i
  have hset := hr4.set i (bv c)
  rw [← List.map_set] at hset
  have ks : Keeps [b] w4 (w4.setCell ⟨b, i, none⟩ (bv c)) := Keeps.setCell _ (by simp) _
  have hs4 := k4.size
  have HSET := Lib.hid hset
  have KS := Lib.hid (show Keeps [] w2 _ from (k3.trans k4).then ks (fun x hx => .inr (by simp at hx; omega)))
  clear hr4 k3 k4 HA HR3 hset ks
  unfold bv at HSET KS
  go_upto_region 11 with (fail)
  generalize hW5 : World.setCell _ _ _ = w5
  have hr5 : Row w5 b 5 (((recB p).set i c).map bv) cp := by rw [← hW5]; exact HSET.out
  have k5 : Keeps [] w w5 := by rw [← hW5]; exact K2.out.trans KS.out
  have hrd := hr5.reads
  have hl5 : ((recB p).set i c).length = z := by rw [List.length_set, recB_length, ← HZ.out]
  rw [hl5] at hrd
  have hA := At_any w5 _ ((recB p).set i c) b hrd (by rw [hl5]; omega)
  rw [HAT.out] at hA
  have HA := Lib.hid hA
  have K5 := Lib.hid k5
  clear hW5 HSET KS hc4 hf4 hr5 k5 hrd hl5 hA
  go_wp2_with fail
  refine HA.out.mono ?_
  rintro e w6 ⟨pa2, pn2, pc2, rfl, ho6, k6⟩
  obtain ⟨ao, cc, hv6⟩ := owns_shape2 ho6
  obtain ⟨rfl, rfl, rfl⟩ : pa2 = ao ∧ pn2 = 0 ∧ pc2 = cc := by simpa using hv6
  dsimp only [recCells]
  have K6 := Lib.hid (K5.out.trans k6)
  clear ho6 hv6 k6 HA
  rcases hkd with rfl | rfl
  · go_wp2_with (go_at_call 9; refine (awake4_any _).mono ?_; rintro e w7 ⟨rfl, k7⟩; have K7 := Lib.hid k7; clear k7)
    go_ret
    exact ⟨rfl, (K6.out.trans (Keeps.alloc [] _ _)).trans K7.out⟩
  · go_wp2_with (go_at_call 9; refine (awake4_any _).mono ?_; rintro e w7 ⟨rfl, k7⟩; have K7 := Lib.hid k7; clear k7)
    go_ret
    exact ⟨rfl, (K6.out.trans (Keeps.alloc [] _ _)).trans K7.out⟩

theorem RecordBits_any (w : World) (v : Value) (p : List UInt8) (Mp : Nat) (a1 a2 : Int) (rp : Reads w v p Mp) (h1 : 0 ≤ a1 ∧ a1 ≤ 65535) (h2 : 0 ≤ a2 ∧ a2 ≤ 255) :
    Calls Try.prog 7 #[v, .int .u16 a1, .int .u8 a2] w fun e w' => e = .returned (.bool true) ∧ Keeps [] w w' := by
  by_cases hl : 1000 < p.length
  · obtain ⟨a, cap, rfl, _⟩ := rp.shape
    exact RecordBits_long w a p.length cap a1 a2 hl
  · exact RecordBits_short w v p Mp a1 a2 rp (by omega) h1 h2
end Go.Proofs.Ytjdjjcpglcoojaa
