/-
  Contracts of ring: Look.
-/
import Derived.Test.YtdcfcljgennipaaRingF
namespace Go.Proofs.Ytdcfcljgennipaa
open Go.RowKit

theorem infoHeader : (Try.prog.info? 56).map (fun i => (i.zero, i.size, i.bytes)) = some (some (.agg #[.int .i64 0, .int .u8 0, .int .u32 0]), 3, 16) := by kernel_rfl

set_option maxHeartbeats 400000 in
theorem Look_not (w : World) (p : Option Addr) (h : NotMade w p) (first count : Int) :
    Calls Try.prog 28 #[.pointer p, .int .i64 first, .int .i64 count] w fun e w' => e = .returned (.tuple #[.slice none 0 0, .int .i64 1]) ∧ w = w' := by
  go_enter Try.func28, Try.ntmps28
  go_wp2_with (go_at_call 62; refine (none_not _ _ h).mono ?_; rintro e w' ⟨rfl, rfl⟩)
  go_ret2
  exact ⟨rfl, rfl⟩

set_option maxHeartbeats 400000 in
theorem Look_bad {F B W M : Nat} {s : FS} (w : World) (hF : FlashAt w F B W M s) (h0 : 0 < s.wear.length) (first count : Int) (hc2 : count ≤ 9223372036854775807) (h : count < 3 ∨ first < 0 ∨ s.wear.length - count < first) :
    Calls Try.prog 28 #[.pointer (some ⟨F, 0, none⟩), .int .i64 first, .int .i64 count] w fun e w' => e = .returned (.tuple #[.slice none 0 0, .int .i64 50]) ∧ w = w' := by
  have HNO := Lib.hid (none_yes w hF h0)
  have HS := Lib.hid (Sectors_yes w hF)
  have hfew := hF.few
  clear hF h0
  generalize s.wear.length = n at *
  by_cases h1 : count < 3
  · clear h
    go_enter Try.func28, Try.ntmps28
    go_wp2_with (first | (go_at_call 62; refine HNO.out.mono ?_; rintro e w' ⟨rfl, rfl⟩) | (go_at_call 63; refine HS.out.mono ?_; rintro e w' ⟨rfl, rfl⟩))
    go_ret2
    exact ⟨rfl, rfl⟩
  · by_cases h2 : first < 0
    · clear h
      go_enter Try.func28, Try.ntmps28
      go_wp2_with (first | (go_at_call 62; refine HNO.out.mono ?_; rintro e w' ⟨rfl, rfl⟩) | (go_at_call 63; refine HS.out.mono ?_; rintro e w' ⟨rfl, rfl⟩))
      go_ret2
      exact ⟨rfl, rfl⟩
    · have h3 : (n : Int) - count < first := by omega
      clear h
      go_enter Try.func28, Try.ntmps28
      go_wp2_with (first | (go_at_call 62; refine HNO.out.mono ?_; rintro e w' ⟨rfl, rfl⟩) | (go_at_call 63; refine HS.out.mono ?_; rintro e w' ⟨rfl, rfl⟩))
      go_ret2
      exact ⟨rfl, rfl⟩

set_option maxRecDepth 100000 in
set_option maxHeartbeats 2000000 in
theorem Look_ok {F B W M : Nat} {s : FS} (w : World) (hF : FlashAt w F B W M s) (hd : s.down = false) (first count : Nat) (hc : 3 ≤ count) (hfc : first + count ≤ s.wear.length) :
    Calls Try.prog 28 #[.pointer (some ⟨F, 0, none⟩), .int .i64 first, .int .i64 count] w fun e w' => ∃ g cp, e = .returned (.tuple #[.slice (some ⟨g, 0, none⟩) count cp, .int .i64 0]) ∧ w.heap.size ≤ g ∧
      HdrsAt w' (.slice (some ⟨g, 0, none⟩) count cp) (lookL s.bs first count) ∧ Keeps [] w w' := by
  obtain ⟨i0, hi, hz0, hz1, hz2⟩ := info_parts infoHeader
  have h0 : 0 < s.wear.length := by omega
  have HNO := Lib.hid (none_yes w hF h0)
  have HS := Lib.hid (Sectors_yes w hF)
  have hfew := hF.few
  have hlen := hF.len
  have HF := Lib.hid hF
  have hlt := hF.lt
  have HRD := Lib.hid (fun U (hk : Keeps [] w U) k (hk2 : k < s.wear.length) => rread_ok U (hF.keeps hk (by simp) (by simp) (by simp) (by simp)) k hd hk2)
  have HLN := Lib.hid (fun k (hk2 : k < s.wear.length) => sec_length s.bs k (by omega))
  have hcc : (count : Int) ≤ 256 := by omega
  have hfc1 : (first : Int) ≤ 256 := by omega
  clear hF h0 hlen hd
  generalize s.wear.length = n at *
  have e1 : ¬ ((n : Int) - count < first) := by omega
  go_enter Try.func28, Try.ntmps28
  go_wp2_with (first | (go_at_call 62; refine HNO.out.mono ?_; rintro e w' ⟨rfl, rfl⟩) | (go_at_call 63; refine HS.out.mono ?_; rintro e w' ⟨rfl, rfl⟩) | (refine wpList_make_own _ rfl _ _ 50 rfl w.heap.size 56 i0 (.agg #[.int .i64 0, .int .u8 0, .int .u32 0]) 3 Try.underlying50 hi hz0 hz1 .i64 .i64 _ count rfl rfl rfl (by rw [hz2]; omega) (by unfold maxLen; omega) (Nat.le_refl _) ?_; intro w1 hown1 hg1; have HO := Lib.hid hown1; have HG := Lib.hid (Keeps.grown (S := []) hg1 (fun k hk => by cases hk)); clear hown1 hg1) | fail)
  go_loopw [8, 9, 10, 11] (fun l sc _ _ wr => ∃ (k : Nat) (g cp : Nat), k ≤ count ∧ sc = .int .i64 (first + k : Nat) ∧ l = .slice (some ⟨g, 0, none⟩) k cp ∧ wr.ownsRow w.heap.size 56 3 (.slice (some ⟨g, 0, none⟩) k cp) k (hdrsCells (lookL s.bs first k)) ∧ Keeps [] w wr) (fun _ sc _ _ _ => first + count - (intOf sc).toNat)
  case atStart => exact ⟨0, w.heap.size, count, by omega, rfl, rfl, HO.out, HG.out⟩
  case round =>
    obtain ⟨k, g, cp, hk, rfl, rfl, hown, hkp⟩ := hrel
    have HOW := Lib.hid hown
    have KW := Lib.hid hkp
    have hbs : 0 < wr.heap.size := by have := hkp.size; omega
    by_cases hlt2 : k < count
    · have hki : ((first + k : Nat) : Int) < (first : Int) + count := by omega
      have hkl := lookL_succ s.bs first k
      have HR := Lib.hid (HRD.out wr hkp (first + k) (by omega))
      obtain ⟨b, hb⟩ : ∃ b, b = sec s.bs (first + k) := ⟨_, rfl⟩
      have hln : b.length = 256 := by rw [hb]; exact HLN.out _ (by omega)
      have hha : hdrAt s.bs (first + k) = hdrOf ((first + k : Nat) : Int) b := by rw [hb]; rfl
      rw [hha] at hkl
      rw [← hb] at HR
      have HH := Lib.hid (show ∀ U g c, Row U g 5 (b.map bv) c → 0 < U.heap.size → Calls Try.prog 65 #[.int .i64 (first + k : Nat), .slice (some ⟨g, 0, none⟩) 256 c] U fun e w' => e = .returned (.agg (hdrCells (hdrOf ((first + k : Nat) : Int) b)).toArray) ∧ Keeps [] U w' from fun U g c hr h0 => by
        have hrd := hr.reads
        rw [hln] at hrd
        exact headerOf_any U _ _ b g hrd (by omega) h0)
      have HKL := Lib.hid hkl
      generalize hdrOf ((first + k : Nat) : Int) b = x at *
      obtain ⟨sx, kx, nx⟩ := x
      dsimp only [hdrCells] at HH
      unfold uv at HH
      generalize hkz : (kx.toNat : Int) = kz at *
      generalize hnz : (nx.toNat : Int) = nz at *
      generalize hq : first + k = q at *
      clear hown hkp hkl hb hln hha
      go_wp2_with (go_at_call 64; refine HR.out.mono ?_; rintro e w2 ⟨gb, c, rfl, hgb, hr, k2⟩; have R2 := Lib.hid hr; have K2 := Lib.hid k2; clear hr k2)
      refine (HH.out _ _ _ R2.out (by have := K2.out.size; omega)).mono ?_
      rintro e w3 ⟨rfl, k3⟩
      have K23 := Lib.hid (K2.out.trans k3)
      have HO3 := Lib.hid (World.ownsRow.keeps HOW.out K23.out (by simp))
      have s3 := K23.out.size
      clear k3 R2 K2 HOW
      go_wp2_with (at_builtin; refine wpList_append_own _ rfl _ _ 50 rfl w.heap.size 56 i0 (.agg #[.int .i64 0, .int .u8 0, .int .u32 0]) 3 16 Try.underlying50 hi hz0 hz1 hz2 rfl (by decide) (.slice (some ⟨g, 0, none⟩) k cp) k (hdrsCells (lookL s.bs first k)) rfl (HO3.out.alloc _) ⟨w3.heap.size, 0, none⟩ 1 1 [.int .i64 sx, .int .u8 kz, .int .u32 nz] rfl rfl ?c1 ?c2 ?c3 ?c4 ?c5 ?_)
      case c1 =>
        intro i u hu
        rw [Addr.add_off, Nat.zero_add, cell_alloc_new]
        simpa using hu
      case c2 => intro u hu; simp at hu; rcases hu with rfl | rfl | rfl <;> rfl
      case c3 => unfold maxLen; omega
      case c4 => omega
      case c5 => have := KW.out.size; simp; omega
      intro v4 w4 hown4 hg4 hne
      obtain ⟨g4, cp4, rfl, hb4, _⟩ : ∃ b c, v4 = .slice (some ⟨b, 0, none⟩) (k + 1) c ∧ w.heap.size ≤ b ∧ True := by
        rcases hown4.2 with ⟨h, _⟩ | ⟨g', cap', cur, h, hb', _⟩
        · exact absurd h hne
        · exact ⟨g', cap', h, hb', trivial⟩
      have kk : Keeps [] w w4 := ((KW.out.trans K23.out).trans (Keeps.alloc [] w3 (.cells #[.int .i64 sx, .int .u8 kz, .int .u32 nz] 56))).ownedK (HO3.out.alloc _) (Keeps.grown hg4 (fun j hj => .inl (by simp [hj])))
      have HO4 := Lib.hid (show w4.ownsRow w.heap.size 56 3 (.slice (some ⟨g4, 0, none⟩) (k + 1) cp4) (k + 1) (hdrsCells (lookL s.bs first (k + 1))) by
        rw [HKL.out, hdrsCells_snoc]
        unfold hdrCells uv
        rw [hkz, hnz]
        exact hown4)
      have K4 := Lib.hid kk
      clear hown4 hg4 kk HO3
      go_wp2
      go_roundw
      case rel => exact ⟨k + 1, g4, cp4, by omega, by congr 1; omega, rfl, HO4.out, K4.out⟩
      case measure => simp [intOf]; omega
    · obtain rfl : k = count := by omega
      have hki : ¬ ((first + k : Nat) : Int) < (first : Int) + k := by omega
      generalize hq : first + k = q at *
      go_wp2
      go_ret2
      refine ⟨g, cp, rfl, (HOW.out.lt g rfl).1, ?_, KW.out⟩
      have := HdrsAt.ofOwn (hs := lookL s.bs first k) (by rw [lookL_length]; exact HOW.out)
      exact this
end Go.Proofs.Ytdcfcljgennipaa
