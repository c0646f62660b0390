/-
  RingTells: what its walk wants: puts that came in; a flash behind some of them.
  RingTells: the flash behind some puts, walked.
  RingTells: what is picked, cleared, opened: plain mathematics.
-/
import Derived.Test.YtdcfcljgennipaaRtC
import Derived.Test.YtdcfcljgennipaaRingEnd
import Derived.Test.YtdcfcljgennipaaRingTurnA
namespace Go.Proofs.Ytdcfcljgennipaa
open Go.RowKit Go.Deep

/-- A Put of lightshiplaw05, as it lies: its bytes below base. -/
def Put5At (w : World) (base : Nat) (a : Addr) (i : Nat) : Prop :=
  ∃ (sc hw : Nat) (x : BitVec 32) (u : Value) (l : List UInt8) (M : Nat), sc < 256 ∧ hw < 256 ∧ l.length ≤ maxLen ∧ Reads w u l M ∧ (l ≠ [] → M < base) ∧ a.block < base ∧
    w.cell? (a.add (i * 4)) = some (.int .u8 sc) ∧ w.cell? (a.add (i * 4 + 1)) = some (.int .u8 hw) ∧ w.cell? (a.add (i * 4 + 2)) = some (uv x) ∧ w.cell? (a.add (i * 4 + 3)) = some u

def Puts5 (w : World) (base : Nat) (v : Value) (n : Nat) : Prop :=
  (v = .slice none 0 0 ∧ n = 0) ∨ ∃ (a : Addr) (cap : Nat), v = .slice (some a) n cap ∧ n ≤ cap ∧ cap ≤ maxLen ∧ ∀ i, i < n → Put5At w base a i

theorem Puts5.spot {w : World} {base : Nat} {ao : Option Addr} {cap n : Nat} (h : Puts5 w base (.slice ao n cap) n) (h0 : 0 < n) : ∃ b off, ao = some ⟨b, off, none⟩ ∧ ∀ i, i < n → Put5At w base ⟨b, off, none⟩ i := by
  rcases h with ⟨_, h1⟩ | ⟨⟨b, off, spot⟩, cap', hv, _, _, hp⟩
  · omega
  · simp only [Value.slice.injEq] at hv
    obtain ⟨_, _, _, _, _, _, _, _, _, _, _, _, c0, _⟩ := hp 0 h0
    have hs : spot = none := by
      cases spot with
      | none => rfl
      | some x =>
        exfalso
        simp only [Addr.add, Nat.zero_mul, if_true] at c0
        unfold World.cell? at c0
        split at c0
        · simp at c0
        · cases c0
    subst hs
    exact ⟨b, off, hv.1, hp⟩

theorem Put5At.keeps {S : List Nat} {w w' : World} {base : Nat} {a : Addr} {i : Nat} (h : Put5At w base a i) (hk : Keeps S w w') (hS : ∀ x ∈ S, base ≤ x) : Put5At w' base a i := by
  obtain ⟨sc, hw, x, u, l, M, h1, h2, h3, h4, h5, h6, c0, c1, c2, c3⟩ := h
  have hn : ∀ k, (a.add k).block ∉ S := fun k hm => by rw [Addr.add_block] at hm; have := hS _ hm; omega
  refine ⟨sc, hw, x, u, l, M, h1, h2, h3, ?_, h5, h6, hk.cell c0 (hn _), hk.cell c1 (hn _), hk.cell c2 (hn _), hk.cell c3 (hn _)⟩
  by_cases hb : l = []
  · subst hb
    rcases h4 with q | ⟨ad, cap, hv, hc, _, _⟩
    · exact .inl q
    · exact .inr ⟨ad, cap, hv, hc, fun h => absurd rfl h, fun i c hi => by simp at hi⟩
  · exact h4.keeps hk (fun hm => by have := hS _ hm; have := h5 hb; omega)

section
variable {H : Type} {enc : TypeId × Value → H} {W : World} {b0 : Nat} {spare : Nat → Bool} {held : Bool}

theorem puts5_read {fuel : Nat} {v : Value} {x : DataW H × List MemPlace} (h : DataW.trod enc Try.prog W b0 spare held fuel 48 [v] = some x) : ∃ n, Puts5 W W.heap.size v n := by
  rcases structs_read Try.underlying48 Try.underlying93 (by kernel_rfl) (by kernel_rfl) h with rfl | ⟨a, len, cap, rfl, hl, hm, hf⟩
  · exact ⟨0, .inl ⟨rfl, rfl⟩⟩
  · refine ⟨len, .inr ⟨a, cap, rfl, hl, hm, fun i hi => ?_⟩⟩
    obtain ⟨u0, y0, n0, c0, t0⟩ := hf i hi 0 _ rfl
    obtain ⟨u1, y1, n1, c1, t1⟩ := hf i hi 1 _ rfl
    obtain ⟨u2, y2, n2, c2, t2⟩ := hf i hi 2 _ rfl
    obtain ⟨u3, y3, n3, c3, t3⟩ := hf i hi 3 _ rfl
    obtain ⟨d, hd, _, wd⟩ := DataW.trod_int Try.underlying5 t0
    obtain ⟨p, hp, _, wp⟩ := DataW.trod_int Try.underlying5 t1
    obtain ⟨q, hq, _, wq⟩ := DataW.trod_int Try.underlying54 t2
    simp at hd hp hq
    subst hd hp hq
    obtain ⟨l, M, hr, hll, hM⟩ := bytes_read t3
    obtain ⟨c, rfl⟩ := byte_of_wf wd
    obtain ⟨c', rfl⟩ := byte_of_wf wp
    obtain ⟨X, rfl⟩ := u32_of_wf wq
    have hb := World.block_lt_of_cell? W _ c1
    rw [Addr.add_block] at hb
    exact ⟨c.toNat, c'.toNat, X, u3, l, M, c.toNat_lt, c'.toNat_lt, hll, hr, hM, hb, c0, c1, c2, c3⟩
end

/-- A flash of 16 sectors that is up, not armed, and was erased so often at most. -/
structure Used (s : FS) (k : Nat) : Prop where
  wl : s.wear.length = 16
  down : s.down = false
  armed : s.armed = false
  wears : ∀ x ∈ s.wear, 0 ≤ x ∧ x ≤ (k : Int)

theorem Used.mono {s : FS} {k m : Nat} (h : Used s k) (hm : k ≤ m) : Used s m := ⟨h.wl, h.down, h.armed, fun x hx => by have := h.wears x hx; omega⟩

theorem Used.program {s : FS} {k : Nat} (h : Used s k) (a : Int) (b : List UInt8) : Used (s.program a b).1 k := by
  unfold FS.program
  split
  · exact h
  · rw [FS.let_whole h.armed]
    exact ⟨h.wl, h.down, h.armed, h.wears⟩

theorem Used.steps {k : Nat} : ∀ (ls : List (List UInt8)) {s : FS} (a : Int), Used s k → Used (stepP s a ls).1 k
  | [], _, _, h => h
  | l :: r, s, a, h => by
    unfold stepP
    split
    · exact h.program a l
    · exact Used.steps r _ (h.program a l)

theorem Used.opened {s : FS} {k : Nat} (h : Used s k) (q : Int) (x : BitVec 32) : Used (s.opened q x).1 k := by
  unfold FS.opened
  split
  · exact h
  · split
    · exact h
    · unfold FS.write
      split
      · exact h
      · split
        · exact h
        · exact Used.steps _ _ h

theorem Used.erase {s : FS} {k : Nat} (h : Used s k) (a : Int) : Used (s.erase a).1 (k + 1) := by
  unfold FS.erase
  split
  · exact h.mono (by omega)
  · have e : ({ s with wear := s.wear.set a.toNat (s.wear.getD a.toNat 0 + 1) } : FS).let (a.toNat * 256) 256 gSet = _ := FS.let_whole h.armed
    rw [e]
    refine ⟨by simp [h.wl], h.down, h.armed, fun x hx => ?_⟩
    rcases List.mem_or_eq_of_mem_set hx with g | g
    · have := h.wears x g; omega
    · subst g
      by_cases hi : a.toNat < s.wear.length
      · have := h.wears (s.wear.getD a.toNat 0) (by rw [List.getD_eq_getElem?_getD, List.getElem?_eq_getElem hi]; exact List.getElem_mem _)
        omega
      · rw [List.getD_eq_getElem?_getD, List.getElem?_eq_none (by omega)]; simp; omega

theorem used_new : Used (FS.new 16) 0 := ⟨by show (List.replicate 16 (0 : Int)).length = 16; rw [List.length_replicate], rfl, rfl, fun x hx => by
  have h : x ∈ List.replicate 16 (0 : Int) := hx
  have := (List.mem_replicate.1 h).2
  omega⟩

theorem run_cut5 (w : World) (a : Option Addr) (len cap hi : Nat) (h : hi ≤ cap) : (Instr.sliceAt 48 (.slice a len cap) none (some (.int .i64 hi)) none).run Try.prog w = .ok (.slice a hi cap) w := by
  have hel : Try.prog.elem 48 = 93 := by kernel_rfl
  have hu : Try.prog.underlying 48 = some (.slice (Try.prog.elem 48)) := by rw [hel]; exact Try.underlying48
  have hsz : (sizeOf 93).run Try.prog w = .ok 4 w := by kernel_rfl
  rw [run_sliceAt_slice _ _ _ _ _ _ hu, run_slice_h _ _ _ _ _ hu _ _ (by omega) (by omega), hel, hsz]
  simp only [Result.andThen, sliced, Int.toNat_natCast]
  by_cases hc : cap = 0
  · rw [if_pos hc]; simp
  · rw [if_neg hc]
    cases a with
    | none => rfl
    | some ad => simp [Addr.add]
end Go.Proofs.Ytdcfcljgennipaa

namespace Go.Proofs.Ytdcfcljgennipaa
open Go.RowKit Go.Deep

set_option maxRecDepth 100000 in
set_option maxHeartbeats 4000000 in
theorem done5_any (w : World) (v : Value) (n : Nat) (hp : Puts5 w w.heap.size v n) :
    Calls Try.prog 27 #[v] w fun e w' => ∃ F B W M s, e = .returned (.pointer (some ⟨F, 0, none⟩)) ∧ FlashAt w' F B W M s ∧ Used s 40 ∧ Keeps [] w w' ∧ w.heap.size ≤ F ∧ w.heap.size ≤ B ∧ w.heap.size ≤ W := by
  obtain ⟨ao, cap, hv, hcap, hmax⟩ : ∃ (ao : Option Addr) (cap : Nat), v = .slice ao n cap ∧ n ≤ cap ∧ cap ≤ maxLen := by
    rcases hp with ⟨h, h0⟩ | ⟨a, cap, h, h1, h2, _⟩
    · exact ⟨none, 0, by rw [h, h0], by omega, Nat.zero_le _⟩
    · exact ⟨some a, cap, h, h1, h2⟩
  subst hv
  have HP := Lib.hid hp
  obtain ⟨m, hm⟩ : ∃ m, m = min n 40 := ⟨_, rfl⟩
  have hmin := fun w ts t => run_min2 w ts t (n : Int) 40 m (by omega)
  have hcut := fun w => run_cut5 w ao n cap m (by omega)
  have hm40 : m ≤ 40 := by omega
  have hmn : m ≤ n := by omega
  have hcapn : (n : Int) ≤ 9223372036854775807 := by unfold maxLen at hmax; omega
  clear hm hp
  go_enter Try.func27, Try.ntmps27
  go_wp2_with fail
  refine (New_ok w 16 (by decide) (by decide)).mono ?_
  rintro e w1 ⟨F, B, W, M, rfl, hF0, hB0, hW0, hF, k1⟩
  have hu := used_new
  generalize FS.new 16 = s0 at *
  have HF := Lib.hid hF
  have K1 := Lib.hid k1
  have HU := Lib.hid hu
  have HFR := Lib.hid (show ∀ y ∈ [F, B, W], w.heap.size ≤ y from fun y hy => by
    simp at hy
    rcases hy with rfl | rfl | rfl
    · exact hF0
    · exact hB0
    · exact hW0)
  clear hF k1 hu
  go_wp2
  go_loopw [6, 7, 20] (fun _ _ ix wr => ∃ (k : Nat) (s : FS), k ≤ m ∧ ix = .int .i64 k ∧ Hid (FlashAt wr F B W M s) ∧ Hid (Used s k) ∧ Hid (Keeps [] w wr)) (fun _ _ ix _ => m - (intOf ix).toNat)
  case atStart => exact ⟨0, s0, Nat.zero_le _, rfl, HF, HU, K1⟩
  case round =>
    obtain ⟨k, s, hk, rfl, HFk, HUk, KP⟩ := hrel
    by_cases hlt : k < m
    · have hki : (k : Int) < (m : Int) := by omega
      obtain ⟨ab, off, rfl, hall⟩ := HP.out.spot (by omega)
      have hpk := hall k (by omega)
      obtain ⟨sc, hw, x, u, l, Ml, h1, h2, h3, h4, h5, h6, c0, c1, c2, c3⟩ := hpk.keeps KP.out (by simp)
      obtain ⟨pa, pc, rfl, hpc⟩ := h4.shape
      simp only [Addr.add_off, ← Nat.add_assoc] at c0 c1 c2 c3
      dsimp only at h6
      have h6' : ab < wr.heap.size := by have := KP.out.size; omega
      have s4 := KP.out.size
      have kA : Keeps [] wr (wr.alloc (.cells #[.int .u8 sc, .int .u8 hw, uv x, .slice pa l.length pc] 93)) := Keeps.alloc [] _ _
      have wA : Whole (wr.alloc (.cells #[.int .u8 sc, .int .u8 hw, uv x, .slice pa l.length pc] 93)) wr.heap.size 93 [.int .u8 sc, .int .u8 hw, uv x, .slice pa l.length pc] := Whole.new wr _ [_, _, _, _]
      have HL := Lib.hid h5
      have HR := Lib.hid h4
      obtain ⟨nl, hnl⟩ : ∃ nl, nl = l.length := ⟨_, rfl⟩
      have HNL := Lib.hid hnl
      obtain ⟨q, hq⟩ : ∃ q, q = sc % 16 := ⟨_, rfl⟩
      have q1 : (sc : Int) % 16 = (q : Int) := by omega
      have q2 : (sc : Int).tmod 16 = (q : Int) := by rw [Int.tmod_eq_emod_of_nonneg (by omega)]; exact q1
      have hq16 : q ≤ 15 := by omega
      have qw : IntKind.i64.wrap (q : Int) = (q : Int) := IntWalk.i64_in _ (by omega)
      obtain ⟨d, hd⟩ : ∃ d, d = hw % 3 := ⟨_, rfl⟩
      have d1 : (hw : Int) % 3 = (d : Int) := by omega
      have d2 : (hw : Int).tmod 3 = (d : Int) := by rw [Int.tmod_eq_emod_of_nonneg (by omega)]; exact d1
      have hd3 : d = 0 ∨ d = 1 ∨ d = 2 := by omega
      clear hq hd hnl h4 h5 hpk hall
      unfold uv at *
      go_upto_region 7 with (fail)
      have e0 := (wA.cell 0).trans (show _ = some (Value.int .u8 (sc : Int)) from rfl)
      have e1 := (wA.cell 1).trans (show _ = some (Value.int .u8 (hw : Int)) from rfl)
      have e2 := (wA.cell 2).trans (show _ = some (Value.int .u32 (x.toNat : Int)) from rfl)
      have e3 := (wA.cell 3).trans (show _ = some (Value.slice pa l.length pc) from rfl)
      have HFA := Lib.hid (HFk.out.keeps kA (by simp) (by simp) (by simp) (by simp))
      have KA := Lib.hid (KP.out.trans kA)
      obtain ⟨Ml', hrl, hMl⟩ := (HR.out.keeps kA (by simp)).away (base := w.heap.size) HL.out [F, B, W] HFR.out
      have HRA := Lib.hid hrl
      have HMA := Lib.hid hMl
      have hpg := wA.lt
      generalize World.alloc wr _ = V at *
      rw [← HNL.out] at e3 HRA hpc h3 ⊢
      obtain ⟨pg, hpge⟩ : ∃ pg, pg = wr.heap.size := ⟨_, rfl⟩
      rw [← hpge] at e0 e1 e2 e3 hpg ⊢
      clear kA wA hrl hMl HFk KP HR HL c0 c1 c2 c3 hpge h6' s4
      have K5 := fun (S : List Nat) (hS : ∀ y ∈ S, y ∈ [F, B, W]) (X : World) (hk : Keeps S V X) => KA.out.then hk (fun y hy => Or.inr (HFR.out y (hS y hy)))
      have HK5 := Lib.hid K5
      clear K5
      rcases hd3 with rfl | rfl | rfl
      · have HOP := Lib.hid (Open_any V HFA.out (q : Int) (by omega) x)
        unfold uv at HOP
        clear HRA
        go_wp2_with fail
        refine HOP.out.mono ?_
        rintro e w5 ⟨rfl, hf5, k5⟩
        have HF5 := Lib.hid hf5
        have HU5 := Lib.hid ((HUk.out.opened q x).mono (show k ≤ k + 1 by omega))
        have K6 := Lib.hid (HK5.out [F, B] (fun y hy => by simp at hy ⊢; rcases hy with rfl | rfl <;> simp) _ k5)
        clear hf5 k5 HOP
        go_wp2
        go_roundw
        case rel => exact ⟨k + 1, _, by omega, by go_num, HF5, HU5, K6⟩
        case measure => simp [intOf]; omega
      · obtain ⟨mn, hmn2⟩ : ∃ mn, mn = min nl 256 := ⟨_, rfl⟩
        have hmin2 := fun w ts t => run_min2 w ts t (nl : Int) 256 mn (by omega)
        obtain ⟨m4, hm4⟩ : ∃ m4, m4 = mn / 4 := ⟨_, rfl⟩
        obtain ⟨mm, hmm⟩ : ∃ mm, mm = m4 * 4 := ⟨_, rfl⟩
        have a1 : (mn : Int) / 4 = (m4 : Int) := by omega
        have a2 : (mn : Int).tdiv 4 = (m4 : Int) := by rw [Int.tdiv_eq_ediv_of_nonneg (by omega)]; exact a1
        have a3 : (m4 : Int) * 4 = (mm : Int) := by omega
        obtain ⟨qa, hqa⟩ : ∃ qa, qa = q * 256 := ⟨_, rfl⟩
        have a4 : (q : Int) * 256 = (qa : Int) := by omega
        have hmnl : mm ≤ nl := by omega
        have hmm2 : mm ≤ 256 := by omega
        have hqa2 : qa ≤ 3840 := by omega
        obtain ⟨ph, ch, hrun, hrh⟩ := (show Reads V (.slice pa l.length pc) l Ml' by rw [← HNL.out]; exact HRA.out).head mm (by rw [← HNL.out]; exact hmnl)
        have htl : (l.take mm).length = mm := by rw [List.length_take, ← HNL.out]; omega
        rw [htl] at hrun hrh
        rw [← HNL.out] at hrun
        have HPR := Lib.hid (Program_yes V HFA.out (qa : Int) _ (l.take mm) Ml' hrh (by have := HMA.out; simp at this; exact ⟨this.1, this.2.1⟩) (by rw [htl]; omega))
        clear HRA hmn2 hm4 hmm hqa hrh htl h3
        go_wp2_with fail
        refine HPR.out.mono ?_
        rintro e w5 ⟨rfl, hf5, k5⟩
        have HF5 := Lib.hid hf5
        have HU5 := Lib.hid ((HUk.out.program qa (l.take mm)).mono (show k ≤ k + 1 by omega))
        have K6 := Lib.hid (HK5.out [F, B] (fun y hy => by simp at hy ⊢; rcases hy with rfl | rfl <;> simp) _ k5)
        clear hf5 k5 HPR
        go_wp2
        go_roundw
        case rel => exact ⟨k + 1, _, by omega, by go_num, HF5, HU5, K6⟩
        case measure => simp [intOf]; omega
      · have HER := Lib.hid (Erase_yes V HFA.out (q : Int) (fun x hx => by have := HUk.out.wears x hx; omega))
        clear HRA
        go_wp2_with fail
        refine HER.out.mono ?_
        rintro e w5 ⟨rfl, hf5, k5⟩
        have HF5 := Lib.hid hf5
        have HU5 := Lib.hid (HUk.out.erase q)
        have K6 := Lib.hid (HK5.out [F, B, W] (fun y hy => hy) _ k5)
        clear hf5 k5 HER
        go_wp2
        go_roundw
        case rel => exact ⟨k + 1, _, by omega, by go_num, HF5, HU5, K6⟩
        case measure => simp [intOf]; omega
    · obtain rfl : k = m := by omega
      go_wp2
      go_ret
      exact ⟨F, B, W, M, s, rfl, HFk.out, HUk.out.mono hm40, KP.out, HFR.out F (by simp), HFR.out B (by simp), HFR.out W (by simp)⟩
end Go.Proofs.Ytdcfcljgennipaa

namespace Go.Proofs.Ytdcfcljgennipaa
open Go.RowKit

/-- Clear, of a sector: it is free then, and worn once more unless it was. -/
theorem clear_used {s : FS} {k : Nat} (h : Used s k) (hl : s.bs.length = 4096) (p : Nat) (hp : p < 16) :
    ∃ (s1 : FS) (d : Int), s.clear p = (s1, 0) ∧ ((d = 0 ∧ (hdrL (sec s.bs p)).1 = 0) ∨ (d = 1 ∧ (hdrL (sec s.bs p)).1 ≠ 0)) ∧ s1.bs.length = 4096 ∧ s1.wear.length = 16 ∧ s1.down = false ∧ s1.armed = false ∧ blank (sec s1.bs p) ∧ s1.wearOf p = s.wearOf p + d := by
  have hpl : p < s.wear.length := by rw [h.wl]; exact hp
  by_cases hk : (hdrL (sec s.bs p)).1 = 0
  · exact ⟨s, 0, clear_free p hpl h.down hk, .inl ⟨rfl, hk⟩, hl, h.wl, h.down, h.armed, hdrL_kind0 hk, by omega⟩
  · refine ⟨s.cleared p, 1, clear_dirty p hpl h.down h.armed hk, .inr ⟨rfl, hk⟩, by rw [cleared_len]; exact hl, by show (s.wear.set _ _).length = 16; rw [List.length_set]; exact h.wl, h.down, h.armed, cleared_same s p, ?_⟩
    have hl2 : p < (s.cleared p).wear.length := by show p < (s.wear.set _ _).length; rw [List.length_set]; exact hpl
    rw [wearOf_nat _ _ hl2, wearOf_nat _ _ hpl]
    show (s.wear.set p (s.wear.getD p 0 + 1)).getD p 0 = _
    rw [List.getD_eq_getElem?_getD, List.getElem?_set_self hpl]; rfl

/-- A sector that is cleared, and opened. -/
theorem open_used {s : FS} {k : Nat} (h : Used s k) (hl : s.bs.length = 4096) (p : Nat) (hp : p < 16) (x : BitVec 32) :
    ∃ (s1 s2 : FS) (d : Int), s.clear p = (s1, 0) ∧ s1.opened p x = (s2, 0) ∧ ((d = 0 ∧ (hdrL (sec s.bs p)).1 = 0) ∨ (d = 1 ∧ (hdrL (sec s.bs p)).1 ≠ 0)) ∧ s2.bs.length = 4096 ∧ s2.down = false ∧ s2.wearOf p = s.wearOf p + d ∧ hdrAt s2.bs p = ⟨p, 1, x⟩ ∧ s2.wear.length = 16 := by
  obtain ⟨s1, d, h1, h2, h3, h4, h5, h6, h7, h8⟩ := clear_used h hl p hp
  refine ⟨s1, s1.withHead p x, d, h1, opened_blank p x (by omega) (by omega) h5 h6 (sec_room h7 (by omega) 20 (by decide)), h2, by rw [withHead_len _ _ _ (by omega)]; exact h3, h5, h8, ?_, h4⟩
  unfold hdrAt hdrOf
  rw [withHead_same _ _ _ (by omega)]

/-- Which sector is picked, of three or more. -/
theorem pick_some (s : FS) (first n : Nat) (but : Int) (hn : 2 ≤ n) : ∃ p : Nat, first ≤ p ∧ p < first + n ∧ s.pick but (lookL s.bs first n) = some (hdrAt s.bs p) := by
  obtain ⟨p, h1, h2, _, h4, _⟩ := pick_turn s first n but hn
  exact ⟨p, h1, h2, h4⟩

/-- Of one sector that is not to be picked none is. -/
theorem pick_one (s : FS) (bs : List UInt8) (first n : Nat) (hn : 1 ≤ n) : s.pick first ((lookL bs first n).take 1) = none := by
  have h := pick_best s first ((lookL bs first n).take 1)
  cases hp : s.pick first ((lookL bs first n).take 1) with
  | none => rfl
  | some c =>
    rw [hp] at h
    obtain ⟨hc, ho, _⟩ := h
    have hx : (lookL bs first n)[0]? = some (hdrAt bs (first + 0)) := lookL_get bs first n 0 (by omega)
    obtain ⟨i, hi⟩ := List.mem_iff_getElem?.1 hc
    rw [List.getElem?_take] at hi
    split at hi
    · have : i = 0 := by omega
      subst this
      rw [hx] at hi
      cases hi
      unfold otherH at ho
      simp [hdrAt, hdrOf] at ho
    · cases hi

/-- The wears of a ring's sectors. -/
def wearsL (s : FS) (first n : Nat) : List Int := (List.range n).map fun i => s.wearOf ((first + i : Nat) : Int)
theorem wearsL_length (s : FS) (first n : Nat) : (wearsL s first n).length = n := by simp [wearsL]
theorem wearsL_get (s : FS) (first n i : Nat) (h : i < n) : (wearsL s first n)[i]? = some (s.wearOf ((first + i : Nat) : Int)) := by simp [wearsL, h]
theorem wearsL_succ (s : FS) (first k : Nat) : wearsL s first (k + 1) = wearsL s first k ++ [s.wearOf ((first + k : Nat) : Int)] := by
  unfold wearsL; rw [List.range_succ, List.map_append]; rfl

theorem part_sec (s : FS) (k : Nat) : s.part ((k * 256 : Nat) : Int) 256 = sec s.bs k := rfl

theorem run_cutH (w : World) (a : Option Addr) (len cap hi : Nat) (h : hi ≤ cap) : (Instr.sliceAt 50 (.slice a len cap) none (some (.int .i64 hi)) none).run Try.prog w = .ok (.slice a hi cap) w := by
  have hel : Try.prog.elem 50 = 56 := by kernel_rfl
  have hu : Try.prog.underlying 50 = some (.slice (Try.prog.elem 50)) := by rw [hel]; exact Try.underlying50
  have hsz : (sizeOf 56).run Try.prog w = .ok 3 w := by kernel_rfl
  rw [run_sliceAt_slice _ _ _ _ _ _ hu, run_slice_h _ _ _ _ _ hu _ _ (by omega) (by omega), hel, hsz]
  simp only [Result.andThen, sliced, Int.toNat_natCast]
  by_cases hc : cap = 0
  · rw [if_pos hc]; simp
  · rw [if_neg hc]
    cases a with
    | none => rfl
    | some ad => simp [Addr.add]
end Go.Proofs.Ytdcfcljgennipaa
