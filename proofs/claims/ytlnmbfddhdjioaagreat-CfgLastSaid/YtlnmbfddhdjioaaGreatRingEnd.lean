/-
  Contracts of ring: Look.
  Headers that are the same, compared; AreHeaders of lists that are the same.
  Ring's examples (awake).
-/
import Derived.Test.YtlnmbfddhdjioaaGreatRingF
import Derived.Laws.StructEq
import Derived.Test.YtlnmbfddhdjioaaGreatGround
namespace Go.Proofs.YtlnmbfddhdjioaaGreat
open Go.RowKit

theorem infoHeader : (Tryz.prog.info? 60).map (fun i => (i.zero, i.size, i.bytes)) = some (some (.agg #[.int .i64 0, .int .u8 0, .int .u32 0]), 3, 16) := by kernel_rfl

set_option maxHeartbeats 400000 in
theorem Look_not (w : World) (p : Option Addr) (h : NotMade w p) (first count : Int) :
    Calls Tryz.prog 19 #[.pointer p, .int .i64 first, .int .i64 count] w fun e w' => e = .returned (.tuple #[.slice none 0 0, .int .i64 1]) ∧ w = w' := by
  go_enter Tryz.func19, Tryz.ntmps19
  go_wp2_with (go_at_call 39; refine (none_not _ _ h).mono ?_; rintro e w' ⟨rfl, rfl⟩)
  go_ret2
  exact ⟨rfl, rfl⟩

set_option maxHeartbeats 400000 in
theorem Look_bad {F B W M : Nat} {s : FS} (w : World) (hF : FlashAt w F B W M s) (h0 : 0 < s.wear.length) (first count : Int) (hc2 : count ≤ 9223372036854775807) (h : count < 3 ∨ first < 0 ∨ s.wear.length - count < first) :
    Calls Tryz.prog 19 #[.pointer (some ⟨F, 0, none⟩), .int .i64 first, .int .i64 count] w fun e w' => e = .returned (.tuple #[.slice none 0 0, .int .i64 50]) ∧ w = w' := by
  have HNO := Lib.hid (none_yes w hF h0)
  have HS := Lib.hid (Sectors_yes w hF)
  have hfew := hF.few
  clear hF h0
  generalize s.wear.length = n at *
  by_cases h1 : count < 3
  · clear h
    go_enter Tryz.func19, Tryz.ntmps19
    go_wp2_with (first | (go_at_call 39; refine HNO.out.mono ?_; rintro e w' ⟨rfl, rfl⟩) | (go_at_call 40; refine HS.out.mono ?_; rintro e w' ⟨rfl, rfl⟩))
    go_ret2
    exact ⟨rfl, rfl⟩
  · by_cases h2 : first < 0
    · clear h
      go_enter Tryz.func19, Tryz.ntmps19
      go_wp2_with (first | (go_at_call 39; refine HNO.out.mono ?_; rintro e w' ⟨rfl, rfl⟩) | (go_at_call 40; refine HS.out.mono ?_; rintro e w' ⟨rfl, rfl⟩))
      go_ret2
      exact ⟨rfl, rfl⟩
    · have h3 : (n : Int) - count < first := by omega
      clear h
      go_enter Tryz.func19, Tryz.ntmps19
      go_wp2_with (first | (go_at_call 39; refine HNO.out.mono ?_; rintro e w' ⟨rfl, rfl⟩) | (go_at_call 40; refine HS.out.mono ?_; rintro e w' ⟨rfl, rfl⟩))
      go_ret2
      exact ⟨rfl, rfl⟩

set_option maxRecDepth 100000 in
set_option maxHeartbeats 2000000 in
theorem Look_ok {F B W M : Nat} {s : FS} (w : World) (hF : FlashAt w F B W M s) (hd : s.down = false) (first count : Nat) (hc : 3 ≤ count) (hfc : first + count ≤ s.wear.length) :
    Calls Tryz.prog 19 #[.pointer (some ⟨F, 0, none⟩), .int .i64 first, .int .i64 count] w fun e w' => ∃ g cp, e = .returned (.tuple #[.slice (some ⟨g, 0, none⟩) count cp, .int .i64 0]) ∧ w.heap.size ≤ g ∧
      HdrsAt w' (.slice (some ⟨g, 0, none⟩) count cp) (lookL s.bs first count) ∧ Keeps [] w w' := by
  obtain ⟨i0, hi, hz0, hz1, hz2⟩ := info_parts infoHeader
  have h0 : 0 < s.wear.length := by omega
  have HNO := Lib.hid (none_yes w hF h0)
  have HS := Lib.hid (Sectors_yes w hF)
  have hfew := hF.few
  have hlen := hF.len
  have HF := Lib.hid hF
  have hlt := hF.lt
  have HRD := Lib.hid (fun U (hk : Keeps [] w U) k (hk2 : k < s.wear.length) => rread_ok U (hF.keeps hk (by simp) (by simp) (by simp) (by simp)) k hd hk2)
  have HLN := Lib.hid (fun k (hk2 : k < s.wear.length) => sec_length s.bs k (by omega))
  have hcc : (count : Int) ≤ 256 := by omega
  have hfc1 : (first : Int) ≤ 256 := by omega
  clear hF h0 hlen hd
  generalize s.wear.length = n at *
  have e1 : ¬ ((n : Int) - count < first) := by omega
  go_enter Tryz.func19, Tryz.ntmps19
  go_wp2_with (first | (go_at_call 39; refine HNO.out.mono ?_; rintro e w' ⟨rfl, rfl⟩) | (go_at_call 40; refine HS.out.mono ?_; rintro e w' ⟨rfl, rfl⟩) | (refine wpList_make_own _ rfl _ _ 55 rfl w.heap.size 60 i0 (.agg #[.int .i64 0, .int .u8 0, .int .u32 0]) 3 Tryz.underlying55 hi hz0 hz1 .i64 .i64 _ count rfl rfl rfl (by rw [hz2]; omega) (by unfold maxLen; omega) (Nat.le_refl _) ?_; intro w1 hown1 hg1; have HO := Lib.hid hown1; have HG := Lib.hid (Keeps.grown (S := []) hg1 (fun k hk => by cases hk)); clear hown1 hg1) | fail)
  go_loopw [8, 9, 10, 11] (fun l sc _ _ wr => ∃ (k : Nat) (g cp : Nat), k ≤ count ∧ sc = .int .i64 (first + k : Nat) ∧ l = .slice (some ⟨g, 0, none⟩) k cp ∧ wr.ownsRow w.heap.size 60 3 (.slice (some ⟨g, 0, none⟩) k cp) k (hdrsCells (lookL s.bs first k)) ∧ Keeps [] w wr) (fun _ sc _ _ _ => first + count - (intOf sc).toNat)
  case atStart => exact ⟨0, w.heap.size, count, by omega, rfl, rfl, HO.out, HG.out⟩
  case round =>
    obtain ⟨k, g, cp, hk, rfl, rfl, hown, hkp⟩ := hrel
    have HOW := Lib.hid hown
    have KW := Lib.hid hkp
    have hbs : 0 < wr.heap.size := by have := hkp.size; omega
    by_cases hlt2 : k < count
    · have hki : ((first + k : Nat) : Int) < (first : Int) + count := by omega
      have hkl := lookL_succ s.bs first k
      have HR := Lib.hid (HRD.out wr hkp (first + k) (by omega))
      obtain ⟨b, hb⟩ : ∃ b, b = sec s.bs (first + k) := ⟨_, rfl⟩
      have hln : b.length = 256 := by rw [hb]; exact HLN.out _ (by omega)
      have hha : hdrAt s.bs (first + k) = hdrOf ((first + k : Nat) : Int) b := by rw [hb]; rfl
      rw [hha] at hkl
      rw [← hb] at HR
      have HH := Lib.hid (show ∀ U g c, Row U g 5 (b.map bv) c → 0 < U.heap.size → Calls Tryz.prog 42 #[.int .i64 (first + k : Nat), .slice (some ⟨g, 0, none⟩) 256 c] U fun e w' => e = .returned (.agg (hdrCells (hdrOf ((first + k : Nat) : Int) b)).toArray) ∧ Keeps [] U w' from fun U g c hr h0 => by
        have hrd := hr.reads
        rw [hln] at hrd
        exact headerOf_any U _ _ b g hrd (by omega) h0)
      have HKL := Lib.hid hkl
      generalize hdrOf ((first + k : Nat) : Int) b = x at *
      obtain ⟨sx, kx, nx⟩ := x
      dsimp only [hdrCells] at HH
      unfold uv at HH
      generalize hkz : (kx.toNat : Int) = kz at *
      generalize hnz : (nx.toNat : Int) = nz at *
      generalize hq : first + k = q at *
      clear hown hkp hkl hb hln hha
      go_wp2_with (go_at_call 41; refine HR.out.mono ?_; rintro e w2 ⟨gb, c, rfl, hgb, hr, k2⟩; have R2 := Lib.hid hr; have K2 := Lib.hid k2; clear hr k2)
      refine (HH.out _ _ _ R2.out (by have := K2.out.size; omega)).mono ?_
      rintro e w3 ⟨rfl, k3⟩
      have K23 := Lib.hid (K2.out.trans k3)
      have HO3 := Lib.hid (World.ownsRow.keeps HOW.out K23.out (by simp))
      have s3 := K23.out.size
      clear k3 R2 K2 HOW
      go_wp2_with (at_builtin; refine wpList_append_own _ rfl _ _ 55 rfl w.heap.size 60 i0 (.agg #[.int .i64 0, .int .u8 0, .int .u32 0]) 3 16 Tryz.underlying55 hi hz0 hz1 hz2 rfl (by decide) (.slice (some ⟨g, 0, none⟩) k cp) k (hdrsCells (lookL s.bs first k)) rfl (HO3.out.alloc _) ⟨w3.heap.size, 0, none⟩ 1 1 [.int .i64 sx, .int .u8 kz, .int .u32 nz] rfl rfl ?c1 ?c2 ?c3 ?c4 ?c5 ?_)
      case c1 =>
        intro i u hu
        rw [Addr.add_off, Nat.zero_add, cell_alloc_new]
        simpa using hu
      case c2 => intro u hu; simp at hu; rcases hu with rfl | rfl | rfl <;> rfl
      case c3 => unfold maxLen; omega
      case c4 => omega
      case c5 => have := KW.out.size; simp; omega
      intro v4 w4 hown4 hg4 hne
      obtain ⟨g4, cp4, rfl, hb4, _⟩ : ∃ b c, v4 = .slice (some ⟨b, 0, none⟩) (k + 1) c ∧ w.heap.size ≤ b ∧ True := by
        rcases hown4.2 with ⟨h, _⟩ | ⟨g', cap', cur, h, hb', _⟩
        · exact absurd h hne
        · exact ⟨g', cap', h, hb', trivial⟩
      have kk : Keeps [] w w4 := ((KW.out.trans K23.out).trans (Keeps.alloc [] w3 (.cells #[.int .i64 sx, .int .u8 kz, .int .u32 nz] 60))).ownedK (HO3.out.alloc _) (Keeps.grown hg4 (fun j hj => .inl (by simp [hj])))
      have HO4 := Lib.hid (show w4.ownsRow w.heap.size 60 3 (.slice (some ⟨g4, 0, none⟩) (k + 1) cp4) (k + 1) (hdrsCells (lookL s.bs first (k + 1))) by
        rw [HKL.out, hdrsCells_snoc]
        unfold hdrCells uv
        rw [hkz, hnz]
        exact hown4)
      have K4 := Lib.hid kk
      clear hown4 hg4 kk HO3
      go_wp2
      go_roundw
      case rel => exact ⟨k + 1, g4, cp4, by omega, by congr 1; omega, rfl, HO4.out, K4.out⟩
      case measure => simp [intOf]; omega
    · obtain rfl : k = count := by omega
      have hki : ¬ ((first + k : Nat) : Int) < (first : Int) + k := by omega
      generalize hq : first + k = q at *
      go_wp2
      go_ret2
      refine ⟨g, cp, rfl, (HOW.out.lt g rfl).1, ?_, KW.out⟩
      have := HdrsAt.ofOwn (hs := lookL s.bs first k) (by rw [lookL_length]; exact HOW.out)
      exact this
end Go.Proofs.YtlnmbfddhdjioaaGreat

namespace Go.Proofs.YtlnmbfddhdjioaaGreat
open Go.RowKit

theorem hdr_fields : (Tryz.prog.fieldsOf 60).toList = [{ name := "Sector", type := 3, offset := 0, embedded := false, tag := "", pkgPath := "", byteOffset := 0 },
          { name := "Kind", type := 5, offset := 1, embedded := false, tag := "", pkgPath := "", byteOffset := 8 },
          { name := "Number", type := 58, offset := 2, embedded := false, tag := "", pkgPath := "", byteOffset := 12 }] := by kernel_rfl

theorem hdr_under : Tryz.prog.underlying 60 = some (.struct (Tryz.prog.fieldsOf 60)) := by kernel_rfl
theorem hdr_held : Tryz.prog.stoodInHeld 60 = false := by kernel_rfl
theorem hdr_guard : Tryz.prog.eqGuardType Tryz.prog.depth 60 = false := by kernel_rfl

theorem hdr_equalN (w : World) (d : Nat) (s k x : Int) : (Op.equalIn (d + 1 + 1) 60 (.agg #[.int .i64 s, .int .u8 k, .int .u32 x]) (.agg #[.int .i64 s, .int .u8 k, .int .u32 x])).run Tryz.prog w = .ok true w := by
  rw [run_equalIn_struct w (d + 1) 60 _ _ hdr_under hdr_held, hdr_fields]
  have h1 := fun w => run_equalIn_int (P := Tryz.prog) w d 3 .i64 .i64 s s Tryz.underlying3
  have h2 := fun w => run_equalIn_int (P := Tryz.prog) w d 5 .u8 .u8 k k Tryz.underlying5
  have h3 := fun w => run_equalIn_int (P := Tryz.prog) w d 58 .u32 .u32 x x Tryz.underlying58
  simp [Op.eqFields, _root_.Go.part, h1, h2, h3]

theorem hdr_equal (w : World) (s k x : Int) : (Op.equalIn 10000 60 (.agg #[.int .i64 s, .int .u8 k, .int .u32 x]) (.agg #[.int .i64 s, .int .u8 k, .int .u32 x])).run Tryz.prog w = .ok true w := hdr_equalN w 9998 s k x

theorem hdr_eqGuard (w : World) (op : BinOp) (x y : Operand) (xs ys : Array Value) : (eqGuard op 60 x y (.agg xs) (.agg ys)).run Tryz.prog w = .ok () w := run_eqGuard_agg w op _ x y xs ys hdr_guard

end Go.Proofs.YtlnmbfddhdjioaaGreat

namespace Go.Proofs.YtlnmbfddhdjioaaGreat
open Go.RowKit

theorem HdrsAt.lit (w : World) (hs : List Hdr) (cs : Array Value) (n : Nat) (hcs : cs = (hdrsCells hs).toArray) (hn : n = hs.length) :
    HdrsAt (w.alloc (.cells cs 60)) (.slice (some ⟨w.heap.size, 0, none⟩) n n) hs := by
  subst hcs
  exact HdrsAt.ofCells hn (Nat.le_refl _) (by simp) fun j v hv => by rw [(Whole.new w 60 (hdrsCells hs)).cell]; exact hv

/-- A flash of n sectors that is new. -/
structure NewN (n : Nat) (s : FS) : Prop where
  len : s.bs.length = n * 256
  all : blank s.bs
  wear : s.wear = List.replicate n 0
  down : s.down = false
  armed : s.armed = false

theorem newN (n : Nat) : NewN n (FS.new n) := ⟨List.length_replicate, blank_replicate _, rfl, rfl, rfl⟩

theorem blank_sec {bs : List UInt8} (h : blank bs) (k : Nat) : blank (sec bs k) := fun c hc => h c (List.mem_of_mem_drop (List.mem_of_mem_take hc))

/-- Open, of a sector where nothing is: what it makes. -/
def FS.withHead (s : FS) (k : Nat) (x : BitVec 32) : FS := { s with bs := put s.bs (k * 256) (recB (headP x)) }

theorem opened_blank {s : FS} (k : Nat) (x : BitVec 32) (hk : k < s.wear.length) (hl : s.bs.length = 256 * s.wear.length) (hd : s.down = false) (hu : s.armed = false) (hb : room s.bs (k * 256) 20) : s.opened k x = (s.withHead k x, 0) := by
  unfold FS.opened
  rw [if_neg (by simp [hd]), if_neg (by omega)]
  have hs : sizeN (headP x).length = 20 := by rw [headP_length]; exact size5
  have hp : (headP x).length ≤ 4080 := by rw [headP_length]; omega
  have := write_room (s := s) (k * 256) (headP x) hp hd hu (by omega) (by rw [hs, hl]; omega) (by rw [hs]; exact hb)
  rw [show ((k : Int) * 256) = ((k * 256 : Nat) : Int) by omega, this]
  rfl

theorem withHead_len (s : FS) (k : Nat) (x : BitVec 32) (h : k * 256 + 256 ≤ s.bs.length) : (s.withHead k x).bs.length = s.bs.length := by
  have hl := head_length x
  exact put_length s.bs (k * 256) (recB (headP x)) (by omega)
theorem withHead_other (s : FS) (k j : Nat) (x : BitVec 32) (h : k * 256 + 256 ≤ s.bs.length) (hj : j ≠ k) : sec (s.withHead k x).bs j = sec s.bs j := sec_put_other _ _ _ _ hj (by rw [head_length]; decide) h
theorem withHead_same (s : FS) (k : Nat) (x : BitVec 32) (h : k * 256 + 256 ≤ s.bs.length) : hdrL (sec (s.withHead k x).bs k) = (1, x) := by
  unfold FS.withHead
  rw [sec_put_same _ _ _ (by rw [head_length]; decide) h]
  exact hdrL_head x _

/-- Clear, of a sector where something is: what it makes, unless it is torn. -/
def FS.cleared (s : FS) (k : Nat) : FS := { s with wear := s.wear.set k (s.wear.getD k 0 + 1), bs := span s.bs (k * 256) 256 (gSet 255) }

theorem clear_dirty {s : FS} (k : Nat) (hk : k < s.wear.length) (hd : s.down = false) (hu : s.armed = false) (hh : (hdrL (sec s.bs k)).1 ≠ 0) : s.clear k = (s.cleared k, 0) := by
  unfold FS.clear
  rw [if_neg (by simp [hd]), if_neg (by omega), Int.toNat_natCast, if_neg hh, FS.erase_let hd ⟨by omega, by omega⟩, Int.toNat_natCast]
  exact FS.let_whole hu

theorem clear_free {s : FS} (k : Nat) (hk : k < s.wear.length) (hd : s.down = false) (hh : (hdrL (sec s.bs k)).1 = 0) : s.clear k = (s, 0) := by
  unfold FS.clear
  rw [if_neg (by simp [hd]), if_neg (by omega), Int.toNat_natCast, if_pos hh]

theorem cleared_len (s : FS) (k : Nat) : (s.cleared k).bs.length = s.bs.length := span_length _ _ _ _
theorem cleared_other (s : FS) (k j : Nat) (hj : j ≠ k) : sec (s.cleared k).bs j = sec s.bs j := sec_span_other _ _ _ _ hj
theorem cleared_same (s : FS) (k : Nat) : blank (sec (s.cleared k).bs k) := sec_erased _ _

/-- The flash of the examples. -/
def exR (s : FS) : FS := { s.withHead 3 7#32 with bs := put (s.withHead 3 7#32).bs (4 * 256) [1, 2, 3, 4] }

section
variable {s : FS} (h : NewN 8 s)
include h

theorem exR_len0 : s.bs.length = 256 * s.wear.length := by rw [h.len, h.wear]; rfl
theorem exR_len1 : (s.withHead 3 7#32).bs.length = 2048 := by rw [withHead_len _ _ _ (by rw [h.len]; decide), h.len]
theorem exR_len : (exR s).bs.length = 2048 := by
  show (put _ _ _).length = _
  rw [put_length _ _ _ (by rw [exR_len1 h]; decide), exR_len1 h]
theorem exR_open : s.opened 3 7#32 = (s.withHead 3 7#32, 0) :=
  opened_blank 3 _ (by rw [h.wear]; decide) (exR_len0 h) h.down h.armed (room.of_blank (fun c hc => h.all c (List.mem_of_mem_drop hc)) (by rw [h.len]; decide))
theorem exR_sec4 : sec (s.withHead 3 7#32).bs 4 = sec s.bs 4 := withHead_other _ _ _ _ (by rw [h.len]; decide) (by decide)
theorem exR_program : (s.withHead 3 7#32).program 1024 [1, 2, 3, 4] = (exR s, 0) :=
  program_room (s := s.withHead 3 7#32) 1024 [1, 2, 3, 4] h.down h.armed (by decide) (by decide) (by decide) (by rw [exR_len1 h]; decide)
    (sec_room (k := 4) (by rw [exR_sec4 h]; exact blank_sec h.all _) (by rw [exR_len1 h]; decide) 4 (by decide))
theorem look0 : lookL s.bs 2 3 = [⟨2, 0, 0#32⟩, ⟨3, 0, 0#32⟩, ⟨4, 0, 0#32⟩] := by
  have e : ∀ k, hdrAt s.bs k = ⟨k, 0, 0#32⟩ := fun k => by unfold hdrAt hdrOf; rw [hdrL_blank (blank_sec h.all k)]
  show [hdrAt s.bs 2, hdrAt s.bs 3, hdrAt s.bs 4] = _
  rw [e, e, e]; rfl
theorem exR_sec (k : Nat) (hk : k ≠ 4) : sec (exR s).bs k = sec (s.withHead 3 7#32).bs k := sec_put_other _ _ _ _ hk (by decide) (by rw [exR_len1 h]; decide)
theorem exR_h2 : hdrL (sec (exR s).bs 2) = (0, 0#32) := by
  rw [exR_sec h _ (by decide), withHead_other _ _ _ _ (by rw [h.len]; decide) (by decide)]; exact hdrL_blank (blank_sec h.all _)
theorem exR_h3 : hdrL (sec (exR s).bs 3) = (1, 7#32) := by
  rw [exR_sec h _ (by decide)]; exact withHead_same _ _ _ (by rw [h.len]; decide)
theorem exR_h4 : hdrL (sec (exR s).bs 4) = (2, 0#32) := by
  have e : sec (exR s).bs 4 = [1, 2, 3, 4] ++ (sec (s.withHead 3 7#32).bs 4).drop 4 := sec_put_same _ _ _ (by decide) (by rw [exR_len1 h]; decide)
  rw [e]
  exact hdrL_item (item_garbage 1 2 3 4 (by decide) (by decide)) (by decide) (by decide) _
theorem look1 : lookL (exR s).bs 2 3 = [⟨2, 0, 0#32⟩, ⟨3, 1, 7#32⟩, ⟨4, 2, 0#32⟩] := by
  show [hdrAt (exR s).bs 2, hdrAt (exR s).bs 3, hdrAt (exR s).bs 4] = _
  unfold hdrAt hdrOf
  rw [exR_h2 h, exR_h3 h, exR_h4 h]; rfl
omit h in
theorem exR_newest : newestL [⟨2, 0, 0#32⟩, ⟨3, 1, 7#32⟩, ⟨4, 2, 0#32⟩] = some ⟨3, 1, 7#32⟩ := by decide +kernel
theorem exR_pick3 : (exR s).pick 3 [⟨2, 0, 0#32⟩, ⟨3, 1, 7#32⟩, ⟨4, 2, 0#32⟩] = some ⟨2, 0, 0#32⟩ := by
  have hw : (exR s).wear = List.replicate 8 0 := h.wear
  unfold FS.pick FS.fresher FS.wearOf
  rw [hw]; decide +kernel
theorem exR_clear4 : (exR s).clear 4 = ((exR s).cleared 4, 0) :=
  clear_dirty 4 (by show 4 < s.wear.length; rw [h.wear]; decide) h.down h.armed (by rw [exR_h4 h]; decide)
theorem exR_wear : ((exR s).cleared 4).wear = [0, 0, 0, 0, 1, 0, 0, 0] := by
  show s.wear.set 4 (s.wear.getD 4 0 + 1) = _
  rw [h.wear]; decide +kernel
theorem exR_clear2 : ((exR s).cleared 4).clear 2 = ((exR s).cleared 4, 0) :=
  clear_free 2 (by rw [exR_wear h]; decide) h.down (by rw [cleared_other _ _ _ (by decide), exR_h2 h])
theorem exR_wear4 : ((exR s).cleared 4).wearOf 4 = 1 := by unfold FS.wearOf; rw [exR_wear h]; decide +kernel
theorem exR_wear2 : ((exR s).cleared 4).wearOf 2 = 0 := by unfold FS.wearOf; rw [exR_wear h]; decide +kernel
theorem exR_pick2 : ((exR s).cleared 4).pick 2 [⟨2, 0, 0#32⟩, ⟨3, 1, 7#32⟩, ⟨4, 2, 0#32⟩] = some ⟨3, 1, 7#32⟩ := by
  unfold FS.pick FS.fresher FS.wearOf
  rw [exR_wear h]; decide +kernel
end

/-- A number of 32 bits that came in. -/
theorem u32_of_wf {n : Int} (h : (Lit.int .u32 n).wf = true) : ∃ x : BitVec 32, n = (x.toNat : Int) := by
  have hb := bounds_u32 h
  exact ⟨BitVec.ofNat 32 n.toNat, by rw [BitVec.toNat_ofNat]; omega⟩

end Go.Proofs.YtlnmbfddhdjioaaGreat
