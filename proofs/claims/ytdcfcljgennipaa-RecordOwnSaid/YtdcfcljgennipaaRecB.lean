/-
  Contracts of record: bodyOf.
-/
import Derived.Test.YtdcfcljgennipaaRecA
import Derived.Test.YtdcfcljgennipaaCrcD
import Derived.OwnWalk
import Derived.Deep.Cut
namespace Go.Proofs.Ytdcfcljgennipaa
open Go.RowKit

theorem padB_more (p : List UInt8) (k : Nat) : (p ++ List.replicate k (255 : UInt8)) ++ [255] = p ++ List.replicate (k + 1) 255 := by
  rw [List.append_assoc, ← List.replicate_succ']

def sliceLen : Value → Nat
  | .slice _ n _ => n
  | _ => 0

theorem Keeps.ownedK {S : List Nat} {w wr w' : World} {T : TypeId} {size n : Nat} {v : Value} {xs : List Value} (hk : Keeps S w wr) (h : wr.ownsRow w.heap.size T size v n xs) (hg : Keeps v.ownBlock.toList wr w') : Keeps S w w' :=
  hk.then hg (fun x hx => .inr (h.lt x (by simpa using hx)).1)

theorem addl_two (h b : List UInt8) : ~~~ (addl (addl ones32 h) b) = crcOf (h ++ b) := by
  unfold crcOf; rw [addl_append]

set_option maxRecDepth 100000 in
set_option maxHeartbeats 2000000 in
theorem bodyOf_any (w : World) (hv pv : Value) (h p : List UInt8) (Mh Mp : Nat) (rh : Reads w hv h Mh) (rp : Reads w pv p Mp) (hh : h.length ≤ 65536) (hp : p.length ≤ 4080) (hw : 0 < w.heap.size) :
    Calls Try.prog 84 #[hv, pv] w fun e w' => ∃ v, e = .returned v ∧ w'.ownsRow w.heap.size 5 1 v (fillN p.length + 4) ((padB p ++ be4 (crcOf (h ++ padB p))).map bv) ∧ Keeps [] w w' := by
  obtain ⟨i0, hi, hz0, hz1, hz2⟩ := info_parts infoByte
  obtain ⟨n, hn⟩ : ∃ n, n = p.length := ⟨_, rfl⟩
  obtain ⟨f, hf⟩ : ∃ f, f = fillN n := ⟨_, rfl⟩
  have hf1 : n ≤ f := by rw [hf]; exact fillN_ge n
  have hf2 : f < n + 4 := by rw [hf]; exact fillN_lt n
  have hf3 : f % 4 = 0 := by rw [hf]; exact fillN_mod n
  obtain ⟨pa, pc, hpv, hpcap⟩ := rp.shape
  rw [← hn] at hp hpcap
  have hfill := filled_any w n (by omega)
  rw [← hf] at hfill
  obtain ⟨x, hx⟩ : ∃ x, x = crcOf (h ++ padB p) := ⟨_, rfl⟩
  rw [← hx]
  have HXE := Lib.hid (show ∀ w, Calls Try.prog 97 #[uv (addl (addl ones32 h) (padB p))] w fun e w' => e = .returned (uv x) ∧ w = w' from fun w => by
    have := End_any w (addl (addl ones32 h) (padB p))
    rwa [addl_two, ← hx] at this)
  clear hx
  have RH := Lib.hid rh
  have RP := Lib.hid rp
  have HN := Lib.hid hn
  have HF := Lib.hid hf
  rw [← hn, ← hf]
  rw [← hn] at hpv
  subst hpv
  clear rh rp hn hf
  go_enter Try.func84, Try.ntmps84
  go_wp2_with (first | (go_at_call 51; refine hfill.mono ?_; rintro e w' ⟨rfl, rfl⟩) | (refine wpList_make_own _ rfl _ _ 22 rfl w.heap.size 5 i0 (.int .u8 0) 1 Try.underlying22 hi hz0 hz1 .i64 .i64 _ (f + 4) rfl rfl rfl (by rw [hz2]; omega) (by unfold maxLen; omega) (Nat.le_refl _) ?_; intro w1 hown1 hg1; have HO := Lib.hid hown1; have HG := Lib.hid (Keeps.grown (S := []) hg1 (fun k hk => by cases hk)); clear hown1 hg1) | (at_builtin; refine wpList_append_reads rfl _ _ rfl w.heap.size _ [] rfl HO.out _ p Mp rfl (RP.out.keeps HG.out (by simp)) (by have := HN.out; simp; omega) HG.out.size ?_; intro v2 w2 hown2 hk2; have HO2 := Lib.hid hown2; have HG2 := Lib.hid hk2; clear hown2 hk2))
  have KP := Lib.hid (HG.out.ownedK HO.out HG2.out)
  rw [List.nil_append] at HO2
  obtain ⟨ao2, cp2, rfl⟩ := owns_shape2 HO2.out
  go_loopw [5] (fun v wr => ∃ (k : Nat) (ao : Option Addr) (cp : Nat), n + k ≤ f ∧ v = .slice ao (n + k) cp ∧ wr.ownsRow w.heap.size 5 1 v (p ++ List.replicate k 255).length ((p ++ List.replicate k 255).map bv) ∧ Keeps [] w wr) (fun v _ => f - sliceLen v)
  case atStart => exact ⟨0, ao2, cp2, hf1, by rw [← HN.out]; rfl, by simpa using HO2.out, KP.out⟩
  case round =>
    obtain ⟨k, ao, cp, hk, rfl, hown, kp⟩ := hrel
    have hlk : (p ++ List.replicate k (255 : UInt8)).length = n + k := by simp [← HN.out]
    have HO' := Lib.hid hown
    have KP' := Lib.hid kp
    have HLK := Lib.hid hlk
    obtain ⟨L, hL⟩ : ∃ L, L = n + k := ⟨_, rfl⟩
    obtain ⟨r, hr⟩ : ∃ r, r = L % 4 := ⟨_, rfl⟩
    have e1 : (L : Int) % 4 = (r : Int) := by omega
    have e2 : (L : Int).tmod 4 = (r : Int) := by rw [Int.tmod_eq_emod_of_nonneg (by omega)]; exact e1
    have hL4 : L ≤ 5000 := by omega
    rw [← hL] at HO'
    clear hown kp hlk
    by_cases hlt : n + k < f
    · have hne : (((r : Int) != 0) : Bool) = true := by simp; omega
      have hLk : L < f := by omega
      have HL := Lib.hid hL
      rw [← hL]
      clear hL hr hlt
      go_wp2_with (at_builtin; refine wpList_append_reads rfl _ _ rfl w.heap.size _ (p ++ List.replicate k 255) rfl (HO'.out.alloc _) _ [255] wr.heap.size rfl (Reads.lit wr [255] _ 5 1 (0, 0) rfl rfl) (by rw [HLK.out]; simp; omega) (by have := KP'.out.size; simp; omega) ?_; intro v3 w3 hown3 hk3; have HO3 := Lib.hid hown3; have HG3 := Lib.hid hk3; clear hown3 hk3)
      have KP3 := Lib.hid ((KP'.out.trans (Keeps.alloc [] wr _)).ownedK (HO'.out.alloc _) HG3.out)
      rw [padB_more] at HO3
      obtain ⟨ao3, cp3, rfl⟩ := owns_shape2 HO3.out
      have hl3 : (p ++ List.replicate (k + 1) (255 : UInt8)).length = n + (k + 1) := by simp [← HN.out]
      refine ⟨⟨k + 1, ao3, cp3, by have := HL.out; omega, by rw [hl3], HO3.out, KP3.out⟩, ?_⟩
      show f - (p ++ List.replicate (k + 1) (255 : UInt8)).length < f - L
      rw [hl3]; have := HL.out; omega
    · have hkf : L = f := by omega
      have he : ((0 : Int) != 0) = false := rfl
      have hr0 : r = 0 := by omega
      have hpad : p ++ List.replicate k (255 : UInt8) = padB p := by
        unfold padB
        rw [← HN.out, ← HF.out, show f - n = k by omega]
      rw [hpad] at HO' HLK
      rw [← hL]
      subst hr0
      have HLF := Lib.hid hkf
      have hL5 : L = (padB p).length := by rw [HLK.out]; exact hL
      have HL5 := Lib.hid hL5
      clear hL hr hlt hpad hkf hL5
      obtain ⟨Mb, rb, _⟩ := owns_reads HO'.out (by have := KP'.out.size; omega)
      have RB := Lib.hid rb
      have hL65 : L ≤ 65536 := by omega
      clear rb
      have RHW := Lib.hid (RH.out.keeps KP'.out (by simp))
      go_wp2_with fail
      refine (Begin_any _).mono ?_
      rintro e w' ⟨rfl, rfl⟩
      go_wp2_with fail
      refine (Add_any _ ones32 _ h Mh RHW.out hh).mono ?_
      rintro e w3 ⟨rfl, k3⟩
      have K3 := Lib.hid k3
      have RB3 := Lib.hid (RB.out.keeps k3 (by simp))
      have HO3 := Lib.hid (World.ownsRow.keeps HO'.out k3 (by simp))
      have KP3 := Lib.hid (KP'.out.trans k3)
      clear k3
      go_wp2_with fail
      refine (Add_any _ _ _ (padB p) Mb RB3.out (by rw [← HL5.out]; exact hL65)).mono ?_
      rintro e w4 ⟨rfl, k4⟩
      have HO4 := Lib.hid (World.ownsRow.keeps HO3.out k4 (by simp))
      have KP4 := Lib.hid (KP3.out.trans k4)
      clear k4
      go_wp2_with fail
      refine (HXE.out _).mono ?_
      rintro e w' ⟨rfl, rfl⟩
      have d1 : (x.toNat : Int) / (2 : Int) ^ 24 = ((x.toNat / 2 ^ 24 : Nat) : Int) := by rw [Int.natCast_ediv, Int.natCast_pow]; rfl
      have d2 : (x.toNat : Int) / (2 : Int) ^ 16 = ((x.toNat / 2 ^ 16 : Nat) : Int) := by rw [Int.natCast_ediv, Int.natCast_pow]; rfl
      have d3 : (x.toNat : Int) / (2 : Int) ^ 8 = ((x.toNat / 2 ^ 8 : Nat) : Int) := by rw [Int.natCast_ediv, Int.natCast_pow]; rfl
      have f1 : (x.toNat : Int) / (16777216 : Int) = ((x.toNat / 2 ^ 24 : Nat) : Int) := d1
      have f2 : (x.toNat : Int) / (65536 : Int) = ((x.toNat / 2 ^ 16 : Nat) : Int) := d2
      have f3 : (x.toNat : Int) / (256 : Int) = ((x.toNat / 2 ^ 8 : Nat) : Int) := d3
      have b1 := byte_wrap (x.toNat / 2 ^ 24)
      have b2 := byte_wrap (x.toNat / 2 ^ 16)
      have b3 := byte_wrap (x.toNat / 2 ^ 8)
      have b4 := byte_wrap x.toNat
      obtain ⟨c1, hc1⟩ : ∃ c, c = UInt8.ofNat (x.toNat / 2 ^ 24) := ⟨_, rfl⟩
      obtain ⟨c2, hc2⟩ : ∃ c, c = UInt8.ofNat (x.toNat / 2 ^ 16) := ⟨_, rfl⟩
      obtain ⟨c3, hc3⟩ : ∃ c, c = UInt8.ofNat (x.toNat / 2 ^ 8) := ⟨_, rfl⟩
      obtain ⟨c4, hc4⟩ : ∃ c, c = UInt8.ofNat x.toNat := ⟨_, rfl⟩
      have HB := Lib.hid (show be4 x = [c1, c2, c3, c4] by rw [hc1, hc2, hc3, hc4]; rfl)
      rw [← hc1] at b1
      rw [← hc2] at b2
      rw [← hc3] at b3
      rw [← hc4] at b4
      clear hc1 hc2 hc3 hc4
      generalize x.toNat / 2 ^ 24 = q1 at *
      generalize x.toNat / 2 ^ 16 = q2 at *
      generalize x.toNat / 2 ^ 8 = q3 at *
      go_wp2_with (at_builtin; refine wpList_append_reads rfl _ _ rfl w.heap.size _ (padB p) rfl (HO4.out.alloc _) _ [c1, c2, c3, c4] w4.heap.size rfl (Reads.lit w4 [c1, c2, c3, c4] _ 5 4 (0, 0) rfl rfl) (by rw [← HL5.out]; simp; omega) (by have := KP4.out.size; simp; omega) ?_; intro v5 w5 hown5 hk5; have HO5 := Lib.hid hown5; have HG5 := Lib.hid hk5; clear hown5 hk5)
      have KP5 := Lib.hid ((KP4.out.trans (Keeps.alloc [] w4 _)).ownedK (HO4.out.alloc _) HG5.out)
      go_wp2
      go_ret
      refine ⟨v5, rfl, ?_, KP5.out⟩
      rw [HB.out]
      have := HO5.out
      rw [List.length_append, ← HL5.out, HLF.out] at this
      exact this
end Go.Proofs.Ytdcfcljgennipaa
