/-
  Contracts of the document's own record (lightshipref04): Bytes.
-/
import Derived.Test.YtdcfcljgennipaaRfBase
import Derived.Test.YtdcfcljgennipaaCrcRef
namespace Go.Proofs.Ytdcfcljgennipaa
open Go.RowKit

theorem Reads.spots {w : World} {p : Option Addr} {n cap : Nat} {l : List UInt8} {M : Nat} (h : Reads w (.slice p n cap) l M) : ∀ i c, l[i]? = some c → ∃ M off, p = some ⟨M, off, none⟩ ∧ w.cell? ⟨M, off + i, none⟩ = some (bv c) := by
  intro i c hc
  obtain ⟨off, cp, hv, _, hcell⟩ := h.at (by intro e; subst e; simp at hc)
  simp at hv
  exact ⟨M, off, hv.1, hcell i c hc⟩

/-- The document's CRC, of bytes that a slice reads as. -/
theorem R2Of_reads (w : World) (v : Value) (l : List UInt8) (M : Nat) (h : Reads w v l M) (hl : l.length ≤ 5000) :
    Calls Try.prog 57 #[v] w fun e w' => e = .returned (uv (crcOf l)) ∧ Keeps [] w w' := by
  obtain ⟨a, cap, rfl, _⟩ := h.shape
  exact R2Of_any w a l cap hl h.spots

theorem lit_owns (w : World) (l : List UInt8) (cs : Array Value) (n : Nat) (base : Nat) (hcs : cs = (l.map bv).toArray) (hn : n = l.length) (hb : base ≤ w.heap.size) (hm : n ≤ 1000) :
    (w.alloc (.cells cs 5)).ownsRow base 5 1 (.slice (some ⟨w.heap.size, 0, none⟩) n n) n (l.map bv) := by
  subst hcs hn
  have := (Whole.new w 5 (l.map bv ++ [])).owns (base := base) hb (n := l.length) (cap := l.length) (by simp) (by simp) (by unfold maxLen; omega)
  simpa using this

theorem ofNat_toNat8 (n : Nat) : (UInt8.ofNat n).toNat = n % 256 := by simp

theorem byte_of_wrap (q : Nat) : IntKind.u8.wrap ((q % 256 : Nat) : Int) = ((UInt8.ofNat q).toNat : Int) := by
  rw [byte_wrap]; simp

set_option maxRecDepth 100000 in
set_option maxHeartbeats 2000000 in
theorem R4Bytes_any (w : World) (pv : Value) (p : List UInt8) (Mp : Nat) (rp : Reads w pv p Mp) (hp : p.length ≤ 4080) :
    Calls Try.prog 24 #[pv, .int .u8 0] w fun e w' => ∃ v, e = .returned v ∧ w'.ownsRow w.heap.size 5 1 v (sizeN p.length) ((recB p).map bv) ∧ Keeps [] w w' := by
  obtain ⟨i0, hi, hz0, hz1, hz2⟩ := info_parts infoByte
  obtain ⟨n, hn⟩ : ∃ n, n = p.length := ⟨_, rfl⟩
  obtain ⟨f, hf⟩ : ∃ f, f = fillN n := ⟨_, rfl⟩
  have hf1 : n ≤ f := by rw [hf]; exact fillN_ge n
  have hf2 : f < n + 4 := by rw [hf]; exact fillN_lt n
  have hf3 : f % 4 = 0 := by rw [hf]; exact fillN_mod n
  obtain ⟨pa, pc, hpv, hpcap⟩ := rp.shape
  rw [← hn] at hp hpcap
  obtain ⟨x, hx⟩ : ∃ x, x = crcOf (headB p.length ++ padB p) := ⟨_, rfl⟩
  have HX := Lib.hid hx
  have HREC := Lib.hid (show recB p = (headB n ++ padB p) ++ be4 x ++ [0, 0, 0, 0] by unfold recB bodyB; rw [← hx, ← hn]; simp)
  have HHB := Lib.hid (show headB n = [UInt8.ofNat (n / 256), UInt8.ofNat n, ~~~UInt8.ofNat (n / 256), ~~~UInt8.ofNat n] from rfl)
  have h1 := sub_not (UInt8.ofNat (n / 256))
  have h2 := sub_not (UInt8.ofNat n)
  have b1 := byte_wrap (n / 256)
  have b2 := byte_of_wrap n
  have b3 : ((n / 256 : Nat) : Int) % 256 = ((UInt8.ofNat (n / 256)).toNat : Int) := byte_mod8 (n / 256)
  have b4 : ((n % 256 : Nat) : Int) % 256 = ((UInt8.ofNat n).toNat : Int) := by rw [← byte_mod8 n]; omega
  obtain ⟨q, hq⟩ : ∃ q, q = n / 256 := ⟨_, rfl⟩
  obtain ⟨r, hr⟩ : ∃ r, r = n % 256 := ⟨_, rfl⟩
  rw [← hq] at b1 b3
  rw [← hr] at b2 b4
  have d1 : (n : Int) / 256 = (q : Int) := by omega
  have d2 : (n : Int).tdiv 256 = (q : Int) := by rw [Int.tdiv_eq_ediv_of_nonneg (by omega)]; exact d1
  have d3 : (n : Int) % 256 = (r : Int) := by omega
  have d4 : (n : Int).tmod 256 = (r : Int) := by rw [Int.tmod_eq_emod_of_nonneg (by omega)]; exact d3
  have hqb : q ≤ 100 := by omega
  have hrb : r ≤ 255 := by omega
  rw [← hq] at HHB h1
  generalize hc1 : UInt8.ofNat q = c1 at *
  generalize hc2 : UInt8.ofNat n = c2 at *
  have HC1 := Lib.hid (show ~~~c1 = ~~~c1 from rfl)
  obtain ⟨c3, hc3⟩ : ∃ c, c = ~~~c1 := ⟨_, rfl⟩
  obtain ⟨c4, hc4⟩ : ∃ c, c = ~~~c2 := ⟨_, rfl⟩
  rw [← hc3] at h1 HHB
  rw [← hc4] at h2 HHB
  have w1 : IntKind.u8.wrap (c3.toNat : Int) = c3.toNat := IntWalk.u8_in _ (by have := c3.toNat_lt; omega)
  have w2 : IntKind.u8.wrap (c4.toNat : Int) = c4.toNat := IntWalk.u8_in _ (by have := c4.toNat_lt; omega)
  have m1 : (c3.toNat : Int) % 256 = c3.toNat := by have := c3.toNat_lt; omega
  have m2 : (c4.toNat : Int) % 256 = c4.toNat := by have := c4.toNat_lt; omega
  have RP := Lib.hid rp
  have HN := Lib.hid hn
  have HF := Lib.hid hf
  rw [← hn]
  rw [← hn] at hpv
  subst hpv
  clear rp hn hf hx hc1 hc2 hc3 hc4 hq hr HC1
  go_enter Try.func24, Try.ntmps24
  go_wp2_with (at_builtin; refine wpList_append_reads rfl _ _ rfl w.heap.size _ [c1, c2, c3, c4] rfl (lit_owns w [c1, c2, c3, c4] _ 4 w.heap.size rfl rfl (Nat.le_refl _) (by decide)) _ p Mp rfl (RP.out.keeps (Keeps.alloc [] _ _) (by simp)) (by have := HN.out; simp; omega) (by simp) ?_; intro v2 w2 hown2 hk2; have HO2 := Lib.hid hown2; have HG2 := Lib.hid hk2; clear hown2 hk2)
  have KP := Lib.hid ((Keeps.alloc [] w (.cells #[.int .u8 c1.toNat, .int .u8 c2.toNat, .int .u8 c3.toNat, .int .u8 c4.toNat] 5)).ownedK (lit_owns w [c1, c2, c3, c4] _ 4 w.heap.size rfl rfl (Nat.le_refl _) (by decide)) HG2.out)
  have HT := Lib.hid (show [c1, c2, c3, c4] = headB n from HHB.out.symm)
  rw [HT.out] at HO2
  obtain ⟨l0, hl0⟩ : ∃ l0, l0 = (headB n ++ p).length := ⟨_, rfl⟩
  have HL0 := Lib.hid (show l0 = 4 + n by rw [hl0, List.length_append, headB_length, ← HN.out])
  rw [← hl0] at HO2
  obtain ⟨ao2, cp2, rfl⟩ := owns_shape2 HO2.out
  have HLA := Lib.hid hl0
  clear hl0
  go_loopw [6] (fun v wr => ∃ (k : Nat) (ao : Option Addr) (cp : Nat), n + k ≤ f ∧ v = .slice ao (4 + n + k) cp ∧ wr.ownsRow w.heap.size 5 1 v (headB n ++ p ++ List.replicate k 255).length ((headB n ++ p ++ List.replicate k 255).map bv) ∧ Keeps [] w wr ∧ w.heap.size < wr.heap.size) (fun v _ => 4 + f - sliceLen v)
  case atStart => exact ⟨0, ao2, cp2, hf1, by rw [HL0.out]; rfl, by have := HO2.out; rw [HLA.out] at this ⊢; simpa using this, KP.out, by have := HG2.out.size; simp at this; omega⟩
  case round =>
    obtain ⟨k, ao, cp, hk, rfl, hown, kp, hwr⟩ := hrel
    have hlk : (headB n ++ p ++ List.replicate k (255 : UInt8)).length = 4 + n + k := by simp [← HN.out, headB_length]; omega
    have HO' := Lib.hid hown
    have KP' := Lib.hid kp
    have HLK := Lib.hid hlk
    obtain ⟨L, hL⟩ : ∃ L, L = 4 + n + k := ⟨_, rfl⟩
    obtain ⟨r, hr⟩ : ∃ r, r = L % 4 := ⟨_, rfl⟩
    have e1 : (L : Int) % 4 = (r : Int) := by omega
    have e2 : (L : Int).tmod 4 = (r : Int) := by rw [Int.tmod_eq_emod_of_nonneg (by omega)]; exact e1
    have hL4 : L ≤ 5000 := by omega
    rw [← hL] at HO'
    clear hown kp hlk
    by_cases hlt : n + k < f
    · have hne : (((r : Int) != 0) : Bool) = true := by simp; omega
      have hLk : L < 4 + f := by omega
      have HL := Lib.hid hL
      rw [← hL]
      clear hL hr hlt
      go_wp2_with (at_builtin; refine wpList_append_reads rfl _ _ rfl w.heap.size _ (headB n ++ p ++ List.replicate k 255) rfl (HO'.out.alloc _) _ [255] wr.heap.size rfl (Reads.lit wr [255] _ 5 1 (0, 0) rfl rfl) (by rw [HLK.out]; simp; omega) (by have := KP'.out.size; simp; omega) ?_; intro v3 w3 hown3 hk3; have HO3 := Lib.hid hown3; have HG3 := Lib.hid hk3; clear hown3 hk3)
      have KP3 := Lib.hid ((KP'.out.trans (Keeps.alloc [] wr _)).ownedK (HO'.out.alloc _) HG3.out)
      rw [padB_more] at HO3
      obtain ⟨ao3, cp3, rfl⟩ := owns_shape2 HO3.out
      have hl3 : (headB n ++ p ++ List.replicate (k + 1) (255 : UInt8)).length = 4 + n + (k + 1) := by simp [← HN.out, headB_length]; omega
      have HL3 := Lib.hid hl3
      have hw3 : w.heap.size < w3.heap.size := by have := HG3.out.size; simp at this; omega
      clear hl3
      go_roundw
      case rel => exact ⟨k + 1, ao3, cp3, by have := HL.out; omega, by rw [HL3.out], HO3.out, KP3.out, hw3⟩
      case measure =>
        show 4 + f - (headB n ++ p ++ List.replicate (k + 1) (255 : UInt8)).length < 4 + f - L
        rw [HL3.out]; have := HL.out; omega
    · have hkf : n + k = f := by omega
      have he : ((0 : Int) != 0) = false := rfl
      have hr0 : r = 0 := by omega
      have hpad : headB n ++ p ++ List.replicate k (255 : UInt8) = headB n ++ padB p := by
        unfold padB
        rw [← HN.out, ← HF.out, show f - n = k by omega, List.append_assoc]
      rw [hpad] at HO' HLK
      rw [← hL]
      subst hr0
      have HLF := Lib.hid (show L = 4 + f by omega)
      have hL5 : L = (headB n ++ padB p).length := by rw [HLK.out]; exact hL
      have HL5 := Lib.hid hL5
      clear hL hr hlt hpad hkf hL5
      obtain ⟨Mb, rb, _⟩ := owns_reads HO'.out (by omega)
      have RB := Lib.hid rb
      clear rb
      go_wp2_with fail
      refine (R2Of_reads _ _ (headB n ++ padB p) Mb RB.out (by rw [← HL5.out]; exact hL4)).mono ?_
      rintro e w3 ⟨rfl, k3⟩
      have HO4 := Lib.hid (World.ownsRow.keeps HO'.out k3 (by simp))
      have KP4 := Lib.hid (KP'.out.trans k3)
      clear k3
      have HXX := Lib.hid (show crcOf (headB n ++ padB p) = x by rw [HX.out, ← HN.out])
      rw [HXX.out]
      have hxl : x.toNat < 4294967296 := x.isLt
      have o1 := ofNat_toNat8 (x.toNat / 2 ^ 24)
      have o2 := ofNat_toNat8 (x.toNat / 2 ^ 16)
      have o3 := ofNat_toNat8 (x.toNat / 2 ^ 8)
      have o4 := ofNat_toNat8 x.toNat
      obtain ⟨a1, ha1⟩ : ∃ c, c = UInt8.ofNat (x.toNat / 2 ^ 24) := ⟨_, rfl⟩
      obtain ⟨a2, ha2⟩ : ∃ c, c = UInt8.ofNat (x.toNat / 2 ^ 16) := ⟨_, rfl⟩
      obtain ⟨a3, ha3⟩ : ∃ c, c = UInt8.ofNat (x.toNat / 2 ^ 8) := ⟨_, rfl⟩
      obtain ⟨a4, ha4⟩ : ∃ c, c = UInt8.ofNat x.toNat := ⟨_, rfl⟩
      have HB := Lib.hid (show be4 x = [a1, a2, a3, a4] by rw [ha1, ha2, ha3, ha4]; rfl)
      rw [← ha1] at o1
      rw [← ha2] at o2
      rw [← ha3] at o3
      rw [← ha4] at o4
      have u1 : (x.toNat : Int) / 16777216 = (a1.toNat : Int) := by omega
      have u2 : (x.toNat : Int) / 65536 % 256 = (a2.toNat : Int) := by omega
      have u3 : (x.toNat : Int) / 256 % 256 = (a3.toNat : Int) := by omega
      have u4 : (x.toNat : Int) % 256 = (a4.toNat : Int) := by omega
      clear ha1 ha2 ha3 ha4 o1 o2 o3 o4 hxl
      go_upto_region 8 with (at_builtin; refine wpList_append_reads rfl _ _ rfl w.heap.size _ (headB n ++ padB p) rfl (HO4.out.alloc _) _ [a1, a2, a3, a4] w3.heap.size rfl (Reads.lit w3 [a1, a2, a3, a4] _ 5 4 (0, 0) rfl rfl) (by rw [← HL5.out]; simp; omega) (by have := KP4.out.size; simp; omega) ?_; intro v5 w5 hown5 hk5; have HO5 := Lib.hid hown5; have HG5 := Lib.hid hk5; clear hown5 hk5)
      have KP5 := Lib.hid ((KP4.out.trans (Keeps.alloc [] w3 _)).ownedK (HO4.out.alloc _) HG5.out)
      have HLL := Lib.hid (show (headB n ++ padB p ++ [a1, a2, a3, a4]).length = L + 4 by rw [List.length_append, ← HL5.out]; rfl)
      go_wp2_with (at_builtin; refine wpList_append_reads rfl _ _ rfl w.heap.size _ (headB n ++ padB p ++ [a1, a2, a3, a4]) rfl (HO5.out.alloc _) _ [0, 0, 0, 0] w5.heap.size rfl (Reads.lit w5 [0, 0, 0, 0] _ 5 4 (0, 0) rfl rfl) (by rw [HLL.out]; simp; omega) (by have := KP5.out.size; simp; omega) ?_; intro v6 w6 hown6 hk6; have HO6 := Lib.hid hown6; have HG6 := Lib.hid hk6; clear hown6 hk6)
      have KP6 := Lib.hid ((KP5.out.trans (Keeps.alloc [] w5 _)).ownedK (HO5.out.alloc _) HG6.out)
      go_wp2
      go_ret
      refine ⟨v6, rfl, ?_, KP6.out⟩
      rw [HREC.out, HB.out]
      have := HO6.out
      rw [List.length_append, HLL.out, HLF.out] at this
      have e : 4 + f + 4 + [(0 : UInt8), 0, 0, 0].length = sizeN n := by rw [HF.out]; unfold sizeN; simp; omega
      rw [e] at this
      exact this
end Go.Proofs.Ytdcfcljgennipaa
