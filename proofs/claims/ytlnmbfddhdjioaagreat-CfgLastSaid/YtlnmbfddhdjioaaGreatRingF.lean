/-
  Contracts of ring: Newest, Pick, Clear, Open.
-/
import Derived.Test.YtlnmbfddhdjioaaGreatRingE
namespace Go.Proofs.YtlnmbfddhdjioaaGreat
open Go.RowKit

theorem fld_hkind (s k x : Int) (w : World) : (Instr.field 60 (.agg #[.int .i64 s, .int .u8 k, .int .u32 x]) 1).run Tryz.prog w = .ok (.int .u8 k) w := by kernel_rfl

set_option maxRecDepth 100000 in
set_option maxHeartbeats 1000000 in
theorem Newest_any (w : World) (lv : Value) (l : List Hdr) (hl : HdrsAt w lv l) (hn : l.length ≤ 100000) :
    Calls Tryz.prog 20 #[lv] w fun e w' => e = .returned (.tuple #[.agg (hdrCells ((newestL l).getD ⟨0, 0, 0#32⟩)).toArray, .bool (newestL l).isSome]) ∧ Keeps [] w w' := by
  obtain ⟨kV, w0⟩ := hdr_start w
  generalize hV : w.alloc (.cells #[.int .i64 0, .int .u8 0, .int .u32 0] 60) = V at *
  have HB := Lib.hid (best_newest V lv l (hl.keeps kV (by simp)) hn liveH newerH (fun W h _ => live_any W h) (fun W a b _ => newer_any W a b))
  have HE := Lib.hid (show newestL l = bestL liveH newerH l from rfl)
  generalize bestL liveH newerH l = res at *
  rw [HE.out]
  obtain ⟨⟨sc, kc, nc⟩, hc⟩ : ∃ c, c = res.getD ⟨0, 0, 0#32⟩ := ⟨_, rfl⟩
  rw [← hc] at HB ⊢
  dsimp only [hdrCells] at HB ⊢
  obtain ⟨ao, cap, rfl, _⟩ := hl.shape
  have sV := w0.lt
  have KV := Lib.hid kV
  have W0 := Lib.hid w0
  clear hl hc HE kV w0
  generalize l.length = n at *
  generalize res.isSome = b at *
  generalize (kc.toNat : Int) = kz at *
  unfold uv at *
  generalize (nc.toNat : Int) = nz at *
  go_enter Tryz.func20, Tryz.ntmps20
  go_wp2_with fail
  refine HB.out.mono ?_
  rintro e w2 ⟨rfl, k2⟩
  have W2 := Lib.hid (W0.out.keeps k2 (by simp))
  have K2 := Lib.hid (KV.out.trans k2)
  have W3 := W2.out.setRow [.int .i64 sc, .int .u8 kz, .int .u32 nz]
  clear k2
  go_wp2_with (refine wpList_store_row rfl 60 _ _ rfl w.heap.size #[.int .i64 sc, .int .u8 kz, .int .u32 nz] rfl rfl 60 #[.int .i64 0, .int .u8 0, .int .u32 0] W2.out (by rw [szHeader]; rfl) rfl (hdr_one _ _ _) ?_)
  refine bodyPost_ret (results_row_tmp rfl _ _ w.heap.size 60 #[.int .i64 sc, .int .u8 kz, .int .u32 nz] (0, 0) _ rfl W3 Tryz.underlying60 rfl (by rw [szHeader]; rfl) _ rfl) rfl ?_
  exact ⟨rfl, K2.out.then (Keeps.setRow (S := [w.heap.size]) _ (by simp) _) (fun x hx => .inr (by simp at hx; omega))⟩

set_option maxHeartbeats 400000 in
theorem Pick_not (w : World) (p : Option Addr) (h : NotMade w p) (lv : Value) (but : Int) :
    Calls Tryz.prog 103 #[.pointer p, lv, .int .i64 but] w fun e w' => e = .returned (.tuple #[.int .i64 0, .int .i64 1]) ∧ Keeps [] w w' := by
  have HN := Lib.hid (fun U (hk : Keeps [] w U) => none_not p U (by
    rcases h with rfl | ⟨F, rfl, hc⟩
    · exact .inl rfl
    · exact .inr ⟨F, rfl, hk.cell hc (by simp)⟩))
  clear h
  go_enter Tryz.func103, Tryz.ntmps103
  go_upto_region 1 with (fail)
  generalize hU : World.alloc (World.alloc w _) _ = U
  have kU : Keeps [] w U := by rw [← hU]; exact (Keeps.alloc [] _ _).trans (Keeps.alloc [] _ _)
  have c0 : U.cell? ⟨w.heap.size, 0, none⟩ = some (.pointer p) := by
    rw [← hU]; exact (Keeps.alloc [] _ _).cell ((cell_alloc_new w _ _ 0).trans rfl) (by simp)
  have KU := Lib.hid kU
  clear hU kU
  go_wp2_with (go_at_call 39; refine (HN.out _ KU.out).mono ?_; rintro e w' ⟨rfl, rfl⟩)
  go_ret2
  exact ⟨rfl, KU.out⟩

set_option maxRecDepth 100000 in
set_option maxHeartbeats 1000000 in
theorem Pick_any {F B W M : Nat} {s : FS} (w : World) (hF : FlashAt w F B W M s) (h0 : 0 < s.wear.length) (lv : Value) (l : List Hdr) (hl : HdrsAt w lv l) (hn : l.length ≤ 100000) (but : Int) :
    Calls Tryz.prog 103 #[.pointer (some ⟨F, 0, none⟩), lv, .int .i64 but] w fun e w' => e = .returned (.tuple #[.int .i64 ((s.pick but l).getD ⟨0, 0, 0#32⟩).sector, .int .i64 (if (s.pick but l).isSome then 0 else 50)]) ∧ Keeps [] w w' := by
  obtain ⟨ao, cap, rfl, _⟩ := hl.shape
  have HL := Lib.hid hl
  have HF := Lib.hid hF
  have HP := Lib.hid (show s.pick but l = bestL (otherH but) s.fresher l from rfl)
  generalize hres : s.pick but l = res at *
  obtain ⟨N, hN⟩ : ∃ N, N = l.length := ⟨_, rfl⟩
  have HN := Lib.hid hN
  rw [← hN]
  clear hl hF hres hN
  go_enter Tryz.func103, Tryz.ntmps103
  go_upto_region 1 with (fail)
  generalize hU : World.alloc (World.alloc w _) _ = U
  have kU : Keeps [] w U := by rw [← hU]; exact (Keeps.alloc [] _ _).trans (Keeps.alloc [] _ _)
  have c0 : U.cell? ⟨w.heap.size, 0, none⟩ = some (.pointer (some ⟨F, 0, none⟩)) := by
    rw [← hU]; exact (Keeps.alloc [] _ _).cell ((cell_alloc_new w _ _ 0).trans rfl) (by simp)
  have c1 : U.cell? ⟨w.heap.size + 1, 0, none⟩ = some (.int .i64 but) := by
    rw [← hU]
    have := cell_alloc_new (w.alloc (.cells #[Value.pointer (some ⟨F, 0, none⟩)] 26)) #[Value.int .i64 but] 3 0
    rw [World.size_alloc] at this
    exact this.trans rfl
  have KU := Lib.hid kU
  have HFU := Lib.hid (HF.out.keeps kU (by simp) (by simp) (by simp) (by simp))
  have HB := Lib.hid (best_pick U _ l (HL.out.keeps kU (by simp)) hn (otherH but) s.fresher (w.heap.size + 1) w.heap.size (fun W' h hk => other_any W' h _ but (hk.cell c1 (by simp)))
    (fun W' a b hk => fresher_any W' (HFU.out.keeps hk (by simp) (by simp) (by simp) (by simp)) a b _ (hk.cell c0 (by simp))))
  have HNO := Lib.hid (none_yes U HFU.out h0)
  rw [← HP.out, ← HN.out] at HB
  clear hU kU HFU
  cases res with
  | none =>
    dsimp only [Option.getD, Option.isSome, hdrCells] at HB ⊢
    go_wp2_with (go_at_call 39; refine HNO.out.mono ?_; rintro e w' ⟨rfl, rfl⟩)
    refine HB.out.mono ?_
    rintro e w2 ⟨rfl, k2⟩
    have K2 := Lib.hid (KU.out.trans k2)
    clear k2
    go_wp2
    go_ret2
    exact ⟨rfl, K2.out.trans (Keeps.alloc [] _ _)⟩
  | some c =>
    obtain ⟨sc, kc, nc⟩ := c
    dsimp only [Option.getD, Option.isSome, hdrCells] at HB ⊢
    unfold uv at HB
    generalize (kc.toNat : Int) = kz at *
    generalize (nc.toNat : Int) = nz at *
    go_wp2_with (go_at_call 39; refine HNO.out.mono ?_; rintro e w' ⟨rfl, rfl⟩)
    refine HB.out.mono ?_
    rintro e w2 ⟨rfl, k2⟩
    have K2 := Lib.hid (KU.out.trans k2)
    clear k2
    go_wp2
    go_ret2
    exact ⟨rfl, K2.out.trans (Keeps.alloc [] _ _)⟩

set_option maxHeartbeats 400000 in
theorem Clear_not (w : World) (p : Option Addr) (h : NotMade w p) (k : Int) :
    Calls Tryz.prog 21 #[.pointer p, .int .i64 k] w fun e w' => e = .returned (.int .i64 1) ∧ w = w' := by
  go_enter Tryz.func21, Tryz.ntmps21
  go_wp2_with (go_at_call 41; refine (rread_not _ _ h _).mono ?_; rintro e w' ⟨rfl, rfl⟩)
  go_ret
  exact ⟨rfl, rfl⟩

set_option maxRecDepth 100000 in
set_option maxHeartbeats 1000000 in
theorem Clear_any {F B W M : Nat} {s : FS} (w : World) (hF : FlashAt w F B W M s) (k : Int) (hk : k ≤ 9223372036854775807) (hw : ∀ x ∈ s.wear, 0 ≤ x ∧ x < 9223372036854775807) :
    Calls Tryz.prog 21 #[.pointer (some ⟨F, 0, none⟩), .int .i64 k] w fun e w' => e = .returned (.int .i64 (s.clear k).2) ∧ FlashAt w' F B W M (s.clear k).1 ∧ Keeps [F, B, W] w w' := by
  have HF := Lib.hid hF
  by_cases h0 : s.readNo k = 0
  · obtain ⟨hd, hk0, hk1⟩ := FS.readNo_zero.1 h0
    obtain ⟨K, rfl⟩ := Int.eq_ofNat_of_zero_le hk0
    have HR := Lib.hid (rread_ok w hF K hd (by omega))
    have hl := sec_length s.bs K (by have := hF.len; omega)
    obtain ⟨b, hb⟩ : ∃ b, b = sec s.bs K := ⟨_, rfl⟩
    rw [← hb] at HR hl
    have hcl : s.clear (K : Int) = if (hdrL b).1 = 0 then (s, 0) else s.erase K := by
      unfold FS.clear
      rw [if_neg (by simp [hd]), if_neg (by omega), Int.toNat_natCast, ← hb]
    have HH := Lib.hid (show ∀ U g c, Row U g 5 (b.map bv) c → Calls Tryz.prog 42 #[.int .i64 K, .slice (some ⟨g, 0, none⟩) 256 c] U fun e w' => e = .returned (.agg (hdrCells (hdrOf K b)).toArray) ∧ Keeps [] U w' from fun U g c hr => by
      have hrd := hr.reads
      rw [hl] at hrd
      exact headerOf_any U K _ b g hrd (by omega) (by have := hr.lt; omega))
    have hlt := hF.lt
    rw [hcl]
    have hkn := hdrL_kinds b
    unfold hdrOf hdrCells at HH
    dsimp only at HH
    clear hF hd hk0 hk1 hl hb hcl h0
    rcases hkn with hkn | hkn
    · rw [hkn] at HH ⊢
      dsimp only at HH ⊢
      rw [if_pos rfl]
      have hfld := fld_hkind
      unfold uv at HH
      go_enter Tryz.func21, Tryz.ntmps21
      go_wp2_with (first | (go_at_call 41; refine HR.out.mono ?_; rintro e w1 ⟨g, c, rfl, hg, hr, k1⟩; have R1 := Lib.hid hr; have K1 := Lib.hid k1; clear hr k1) | (go_at_call 42; refine (HH.out _ _ _ R1.out).mono ?_; rintro e w2 ⟨rfl, k2⟩; have K2 := Lib.hid (K1.out.trans k2); clear k2))
      go_ret
      exact ⟨rfl, HF.out.keeps K2.out (by simp) (by simp) (by simp) (by simp), K2.out.mono (by simp)⟩
    · obtain ⟨kz, nz, hkz, he⟩ : ∃ (kz : UInt8) (nz : BitVec 32), (kz = 1 ∨ kz = 2) ∧ hdrL b = (kz, nz) := by
        rcases hkn with ⟨x, h⟩ | h
        · exact ⟨1, x, .inl rfl, h⟩
        · exact ⟨2, _, .inr rfl, h⟩
      rw [he] at HH ⊢
      dsimp only at HH ⊢
      rw [if_neg (by rcases hkz with rfl | rfl <;> decide)]
      clear hkn he
      obtain ⟨q, hq⟩ : ∃ q, q = s.erase K := ⟨_, rfl⟩
      have HE := Lib.hid (fun U (hk : Keeps [] w U) => Erase_yes U (HF.out.keeps hk (by simp) (by simp) (by simp) (by simp)) K hw)
      rw [← hq] at HE ⊢
      obtain ⟨q1, q2⟩ := q
      dsimp only at HE ⊢
      clear hq
      have hnz : (((kz.toNat : Int) == 0) : Bool) = false := by rcases hkz with rfl | rfl <;> decide
      generalize (kz.toNat : Int) = z at *
      unfold uv at HH
      generalize (nz.toNat : Int) = y at *
      have hfld := fld_hkind
      go_enter Tryz.func21, Tryz.ntmps21
      go_wp2_with (first | (go_at_call 41; refine HR.out.mono ?_; rintro e w1 ⟨g, c, rfl, hg, hr, k1⟩; have R1 := Lib.hid hr; have K1 := Lib.hid k1; clear hr k1) | (go_at_call 42; refine (HH.out _ _ _ R1.out).mono ?_; rintro e w2 ⟨rfl, k2⟩; have K2 := Lib.hid (K1.out.trans k2); clear k2) | (go_at_call 46; refine (HE.out _ K2.out).mono ?_; rintro e w3 ⟨rfl, hF3, k3⟩; have F3 := Lib.hid hF3; have K3 := Lib.hid k3; clear hF3 k3))
      go_ret
      exact ⟨rfl, F3.out, (K2.out.mono (by simp)).trans K3.out⟩
  · have HR := Lib.hid (rread_no w hF k hk h0)
    have hcl : s.clear k = (s, s.readNo k) := by
      unfold FS.clear FS.readNo
      unfold FS.readNo at h0
      by_cases hd : s.down = true
      · rw [if_pos hd, if_pos hd]
      · rw [if_neg hd] at h0 ⊢
        rw [if_neg hd]
        by_cases hi : 0 ≤ k ∧ k < s.wear.length
        · rw [if_neg (fun q => q hi)] at h0; exact absurd rfl h0
        · rw [if_pos hi, if_pos hi]
    rw [hcl]
    have hne : ((s.readNo k != 0) : Bool) = true := by simpa using h0
    clear hF h0 hcl
    generalize s.readNo k = r at *
    go_enter Tryz.func21, Tryz.ntmps21
    go_wp2_with (go_at_call 41; refine HR.out.mono ?_; rintro e w' ⟨rfl, rfl⟩)
    go_ret
    exact ⟨rfl, HF.out, Keeps.refl _ _⟩

set_option maxHeartbeats 400000 in
theorem Open_not (w : World) (p : Option Addr) (h : NotMade w p) (k : Int) (x : BitVec 32) :
    Calls Tryz.prog 22 #[.pointer p, .int .i64 k, uv x] w fun e w' => e = .returned (.int .i64 1) ∧ w = w' := by
  go_enter Tryz.func22, Tryz.ntmps22
  go_wp2_with (go_at_call 41; refine (rread_not _ _ h _).mono ?_; rintro e w' ⟨rfl, rfl⟩)
  go_ret
  exact ⟨rfl, rfl⟩

set_option maxRecDepth 100000 in
set_option maxHeartbeats 1000000 in
theorem Open_any {F B W M : Nat} {s : FS} (w : World) (hF : FlashAt w F B W M s) (k : Int) (hk : k ≤ 9223372036854775807) (x : BitVec 32) :
    Calls Tryz.prog 22 #[.pointer (some ⟨F, 0, none⟩), .int .i64 k, uv x] w fun e w' => e = .returned (.int .i64 (s.opened k x).2) ∧ FlashAt w' F B W M (s.opened k x).1 ∧ Keeps [F, B] w w' := by
  have HF := Lib.hid hF
  by_cases h0 : s.readNo k = 0
  · obtain ⟨hd, hk0, hk1⟩ := FS.readNo_zero.1 h0
    have hop : s.opened k x = s.write (k * 256) (headP x) := by
      unfold FS.opened
      rw [if_neg (by simp [hd]), if_neg (by omega)]
    rw [hop]
    have hfew := hF.few
    have hk256 : k < 256 := by omega
    obtain ⟨K, rfl⟩ := Int.eq_ofNat_of_zero_le hk0
    have HR := Lib.hid (rread_ok w hF K hd (by omega))
    have HW := Lib.hid (show ∀ U, Keeps [] w U → Calls Tryz.prog 47 #[.pointer (some ⟨F, 0, none⟩), .int .i64 ((K : Int) * 256), .slice (some ⟨U.heap.size, 0, none⟩) 5 5] (U.alloc (.cells ((headP x).map bv).toArray 5)) fun e w' => e = .returned (.int .i64 (s.write ((K : Int) * 256) (headP x)).2) ∧ FlashAt w' F B W M (s.write ((K : Int) * 256) (headP x)).1 ∧ Keeps [F, B] (U.alloc (.cells ((headP x).map bv).toArray 5)) w' from fun U hk =>
      Write_any _ (HF.out.keeps (hk.trans (Keeps.alloc [] _ _)) (by simp) (by simp) (by simp) (by simp)) _ _ (headP x) U.heap.size (Reads.lit U (headP x) _ 5 5 (0, 0) rfl rfl) (by rw [headP_length]; decide))
    obtain ⟨q, hq⟩ : ∃ q, q = s.write ((K : Int) * 256) (headP x) := ⟨_, rfl⟩
    rw [← hq] at HW ⊢
    obtain ⟨q1, q2⟩ := q
    dsimp only at HW ⊢
    clear hF hd hk0 hk1 hop h0 hq
    go_enter Tryz.func22, Tryz.ntmps22
    go_wp2_with (first | (go_at_call 41; refine HR.out.mono ?_; rintro e w1 ⟨g, c, rfl, hg, hr, k1⟩; have K1 := Lib.hid k1; clear hr k1) | (go_at_call 48; refine (payloadOf_any _ x).mono ?_; rintro e w' ⟨rfl, rfl⟩) | (go_at_call 47; refine (HW.out _ K1.out).mono ?_; rintro e w3 ⟨rfl, hF3, k3⟩; have F3 := Lib.hid hF3; have K3 := Lib.hid k3; clear hF3 k3))
    go_ret
    exact ⟨rfl, F3.out, ((K1.out.trans (Keeps.alloc [] _ _)).mono (by simp)).trans K3.out⟩
  · have HR := Lib.hid (rread_no w hF k hk h0)
    have hcl : s.opened k x = (s, s.readNo k) := by
      unfold FS.opened FS.readNo
      unfold FS.readNo at h0
      by_cases hd : s.down = true
      · rw [if_pos hd, if_pos hd]
      · rw [if_neg hd] at h0 ⊢
        rw [if_neg hd]
        by_cases hi : 0 ≤ k ∧ k < s.wear.length
        · rw [if_neg (fun q => q hi)] at h0; exact absurd rfl h0
        · rw [if_pos hi, if_pos hi]
    rw [hcl]
    have hne : ((s.readNo k != 0) : Bool) = true := by simpa using h0
    clear hF h0 hcl
    generalize s.readNo k = r at *
    go_enter Tryz.func22, Tryz.ntmps22
    go_wp2_with (go_at_call 41; refine HR.out.mono ?_; rintro e w' ⟨rfl, rfl⟩)
    go_ret
    exact ⟨rfl, HF.out, Keeps.refl _ _⟩
end Go.Proofs.YtlnmbfddhdjioaaGreat
