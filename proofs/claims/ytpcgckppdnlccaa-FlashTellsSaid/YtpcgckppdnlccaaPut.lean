/-
  lightshiplaw01's Put: as it lies in an argument; its at; after; all.
-/
import Derived.Test.YtpcgckppdnlccaaArgs
import Derived.Test.YtpcgckppdnlccaaNone
import Derived.Lib.SmallJoins
namespace Go.Proofs.Ytpcgckppdnlccaa
open Go.RowKit Go.Deep Go.ChangeShapes Go.WideShapes

theorem readsShape {w : World} {v : Value} {l : List UInt8} {M : Nat} (h : Reads w v l M) : ∃ ao cap, v = .slice ao l.length cap := by
  rcases h with ⟨rfl, rfl⟩ | ⟨ad, cap, rfl, _⟩
  · exact ⟨none, 0, rfl⟩
  · exact ⟨_, _, rfl⟩

structure PutD where
  word : Nat
  v : Value
  b : List UInt8
  M : Nat

/-- A Put in memory: its bytes lie below base. -/
structure PutD.ok (p : PutD) (w : World) (base : Nat) : Prop where
  word : p.word < 65536
  len : p.b.length ≤ maxLen
  reads : Reads w p.v p.b p.M
  low : p.b ≠ [] → p.M < base

theorem PutD.ok.keeps {p : PutD} {S : List Nat} {w w' : World} {base : Nat} (h : p.ok w base) (hk : Keeps S w w') (hS : ∀ x ∈ S, base ≤ x) : p.ok w' base := by
  refine ⟨h.word, h.len, ?_, h.low⟩
  by_cases hb : p.b = []
  · have := h.reads
    rw [hb] at this ⊢
    rcases this with q | ⟨ad, cap, hv, hc, _, hr⟩
    · exact .inl q
    · exact .inr ⟨ad, cap, hv, hc, fun h => absurd rfl h, fun i c hi => by simp at hi⟩
  · exact h.reads.keeps hk (fun hm => by have := hS _ hm; have := h.low hb; omega)

def PutsAt (w : World) (base : Nat) (v : Value) (ps : List PutD) : Prop :=
  (v = .slice none 0 0 ∧ ps = []) ∨
  ∃ ad cap, v = .slice (some ad) ps.length cap ∧ ps.length ≤ cap ∧ cap ≤ maxLen ∧ ∀ i p, ps[i]? = some p → p.ok w base ∧ ad.block < base ∧
    w.cell? (ad.add (i * 2)) = some (.int .u16 p.word) ∧ w.cell? (ad.add (i * 2 + 1)) = some p.v

theorem PutsAt.keeps {S : List Nat} {w w' : World} {base : Nat} {v : Value} {ps : List PutD} (h : PutsAt w base v ps) (hk : Keeps S w w') (hS : ∀ x ∈ S, base ≤ x) : PutsAt w' base v ps := by
  rcases h with h | ⟨ad, cap, hv, h1, h2, h3⟩
  · exact .inl h
  · refine .inr ⟨ad, cap, hv, h1, h2, fun i p hi => ?_⟩
    obtain ⟨ok, hb, c0, c1⟩ := h3 i p hi
    have hn : ∀ k, (ad.add k).block ∉ S := fun k hm => by rw [Addr.add_block] at hm; have := hS _ hm; omega
    exact ⟨ok.keeps hk hS, hb, hk.cell c0 (hn _), hk.cell c1 (hn _)⟩

def PutD.len (p : PutD) : Nat := min p.b.length 300 / 4 * 4
def PutD.bytes (p : PutD) : List UInt8 := p.b.take p.len
def PutD.place (p : PutD) : Nat := 4 * (p.word % ((2048 - p.len) / 4 + 1))

theorem PutD.len_le (p : PutD) : p.len ≤ p.b.length ∧ p.len ≤ 300 ∧ p.len % 4 = 0 := by unfold PutD.len; omega
theorem PutD.bytes_length (p : PutD) : p.bytes.length = p.len := by unfold PutD.bytes; rw [List.length_take]; have := p.len_le; omega
theorem PutD.place_le (p : PutD) : p.place + p.len ≤ 2048 ∧ p.place % 4 = 0 := by
  have h := p.len_le
  unfold PutD.place
  have := Nat.mod_lt p.word (show 0 < (2048 - p.len) / 4 + 1 by omega)
  omega

set_option maxHeartbeats 1000000 in
theorem at_some (p : PutD) (w : World) (base : Nat) (h : p.ok w base) :
    Calls Try.prog 23 #[.agg #[.int .u16 p.word, p.v]] w fun e w' => ∃ b c, e = .returned (.tuple #[.int .i64 p.place, .slice (some ⟨b, 0, none⟩) p.len c]) ∧ w.heap.size ≤ b ∧ Row w' b 5 (p.bytes.map bv) c ∧ Keeps [] w w' := by
  have hw := h.word
  have hl := h.len
  unfold maxLen at hl
  rcases h.reads with ⟨hv, hb⟩ | ⟨ad, cap, hv, hcap, _, hc⟩
  · rw [hv]
    have hpl : p.len = 0 := by unfold PutD.len; rw [hb]; rfl
    have hpb : p.bytes = [] := by unfold PutD.bytes; rw [hpl]; rfl
    have hpp : p.place = 4 * (p.word % 513) := by unfold PutD.place; rw [hpl]
    rw [hpl, hpb, hpp]
    generalize p.word = q at *
    clear hpl hpb hpp hb hv
    go_enter Try.func23, Try.ntmps23
    go_wp2_with (first | (go_at_call 13; refine (Fresh_nil _).mono ?_; rintro e w1 ⟨b, c, rfl, hb, hR, hK⟩; have cq : w1.cell? ⟨w.heap.size, 0, none⟩ = some (.int .u16 q) := hK.cell (by rw [cell_alloc_new]; rfl) (by simp); have HR := Lib.hid hR; have HK := Lib.hid hK; clear hR hK) | (go_at_call 42; refine (Among_pos _ _ _ (by omega) (by omega) (by omega) (by omega)).mono ?_; rintro e w2 ⟨rfl, rfl⟩) | fail)
    go_ret2
    simp at hb
    exact ⟨b, c, by simp, by omega, HR.out, (Keeps.alloc [] w _).trans HK.out⟩
  · rw [hv]
    have hpl := p.len_le
    have hpp := p.place_le
    have Hbl := Lib.hid p.bytes_length
    have hrd : ∀ i u, (p.bytes.map bv)[i]? = some u → w.cell? (ad.add i) = some u := by
      intro i u hu
      unfold PutD.bytes at hu
      rw [List.getElem?_map, List.getElem?_take] at hu
      split at hu
      · obtain ⟨c, hc1, rfl⟩ := Option.map_eq_some_iff.1 hu
        exact hc i c hc1
      · simp at hu
    have Hrd := Lib.hid hrd
    have Hp := Lib.hid (show (p.place : Int) = 4 * ((p.word : Int) % ((2048 - (p.len : Int)) / 4 + 1)) by
      have e : ((2048 - p.len : Nat) : Int) = 2048 - (p.len : Int) := by omega
      unfold PutD.place
      rw [Int.natCast_mul, Int.natCast_emod, Int.natCast_add, Int.natCast_ediv, e]
      rfl)
    have Hl := Lib.hid (show (p.len : Int) = min (p.b.length : Int) 300 / 4 * 4 by unfold PutD.len; omega)
    clear hrd hc
    by_cases hbig : p.b.length ≤ 300
    · have hx : (p.b.length : Int) / 4 * 4 = (p.len : Int) := by unfold PutD.len; omega
      have hsl := slice_to ad p.b.length cap p.len (by omega)
      rw [← hx] at hsl
      have hb0 : ¬ ((300 : Int) < p.b.length) := by omega
      have Hx := Lib.hid hx
      clear hx
      go_enter Try.func23, Try.ntmps23
      go_wp2_with (first | (go_at_call 13; refine (Fresh_some _ ad p.len cap (p.bytes.map bv) (by rw [List.length_map]; exact Hbl.out) (by omega) (one_bytes _) (fun i u hu => (Keeps.alloc [] w _).cell (Hrd.out i u hu) (by simp))).mono ?_; rintro e w1 ⟨b, c, rfl, hb, hR, hK⟩; have cq : w1.cell? ⟨w.heap.size, 0, none⟩ = some (.int .u16 p.word) := hK.cell (by rw [cell_alloc_new]; rfl) (by simp); have HR := Lib.hid hR; have HK := Lib.hid hK; clear hR hK) | (go_at_call 42; refine (Among_pos _ _ _ (by omega) (by omega) (by omega) (by omega)).mono ?_; rintro e w2 ⟨rfl, rfl⟩) | fail)
      go_ret2
      simp at hb
      have hv : wrap64 (4 * ((p.word : Int) % ((2048 - (p.len : Int)) / 4 + 1))) = (p.place : Int) := by rw [← Hp.out]; exact IntWalk.wrap64_in _ ⟨by omega, by omega⟩
      exact ⟨b, c, by show Ending.returned (.tuple #[.int .i64 (wrap64 _), _]) = _; rw [hv]; rfl, by omega, HR.out, (Keeps.alloc [] w _).trans HK.out⟩
    · have hx : (300 : Int) = (p.len : Int) := by unfold PutD.len; omega
      have hsl := slice_to ad p.b.length cap p.len (by omega)
      rw [← hx] at hsl
      have hb0 : (300 : Int) < p.b.length := by omega
      have Hx := Lib.hid hx
      clear hx
      go_enter Try.func23, Try.ntmps23
      go_wp2_with (first | (go_at_call 13; refine (Fresh_some _ ad p.len cap (p.bytes.map bv) (by rw [List.length_map]; exact Hbl.out) (by omega) (one_bytes _) (fun i u hu => (Keeps.alloc [] w _).cell (Hrd.out i u hu) (by simp))).mono ?_; rintro e w1 ⟨b, c, rfl, hb, hR, hK⟩; have cq : w1.cell? ⟨w.heap.size, 0, none⟩ = some (.int .u16 p.word) := hK.cell (by rw [cell_alloc_new]; rfl) (by simp); have HR := Lib.hid hR; have HK := Lib.hid hK; clear hR hK) | (go_at_call 42; refine (Among_pos _ _ _ (by omega) (by omega) (by omega) (by omega)).mono ?_; rintro e w2 ⟨rfl, rfl⟩) | fail)
      go_ret2
      simp at hb
      have hv : wrap64 (4 * ((p.word : Int) % ((2048 - (p.len : Int)) / 4 + 1))) = (p.place : Int) := by rw [← Hp.out]; exact IntWalk.wrap64_in _ ⟨by omega, by omega⟩
      exact ⟨b, c, by show Ending.returned (.tuple #[.int .i64 (wrap64 _), _]) = _; rw [hv]; rfl, by omega, HR.out, (Keeps.alloc [] w _).trans HK.out⟩

set_option maxHeartbeats 400000 in
theorem all_yes {F B W M : Nat} {s : FS} (w : World) (hF : FlashAt w F B W M s) (hd : s.down = false) (hl : s.bs.length = 2048) :
    Calls Try.prog 24 #[.pointer (some ⟨F, 0, none⟩)] w fun e w' => ∃ b c, e = .returned (.slice (some ⟨b, 0, none⟩) 2048 c) ∧ w.heap.size ≤ b ∧ Row w' b 5 (s.bs.map bv) c ∧ Keeps [] w w' := by
  have hh : s.has 0 2048 := by unfold FS.has; omega
  have Hp := Lib.hid (show s.part 0 2048 = s.bs by
    show (s.bs.drop 0).take 2048 = s.bs
    rw [List.drop_zero, List.take_of_length_le (by omega)])
  have Hd := Lib.hid hd
  clear hd hl
  go_enter Try.func24, Try.ntmps24
  go_wp2_with (go_at_call 19; refine (Read_ok _ hF _ _ Hd.out hh).mono ?_; rintro e w1 ⟨b, c, rfl, hb, hR, hK⟩; rw [Hp.out] at hR; have HR := Lib.hid hR; have HK := Lib.hid hK; clear hR hK)
  go_ret
  exact ⟨b, c, rfl, hb, HR.out, HK.out⟩

/-- Bytes programmed, as a whole. -/
def FS.put (s : FS) (a : Nat) (b : List UInt8) : FS := { s with bs := span s.bs a b.length (gClear b 255) }

/-- A flash of eight sectors, on, and not armed. -/
structure Plain (s : FS) : Prop where
  len : s.bs.length = 2048
  down : s.down = false
  armed : s.armed = false
  wear : s.wear = [0, 0, 0, 0, 0, 0, 0, 0]
  mask : s.mask = []

theorem plain_new : Plain (FS.new 8) := ⟨start_new.len, rfl, rfl, rfl, rfl⟩
theorem Plain.put {s : FS} (h : Plain s) (a : Nat) (b : List UInt8) : Plain (s.put a b) := ⟨by show (span _ _ _ _).length = _; rw [span_length, h.len], h.down, h.armed, h.wear, h.mask⟩

theorem Plain.program {s : FS} (h : Plain s) (a : Nat) (b : List UInt8) (ha : a % 4 = 0) (hb : b.length % 4 = 0) (hl : a + b.length ≤ 2048) : s.program a b = (s.put a b, 0) := by
  have hm : s.mayProgram a b.length = 0 := FS.mayProgram_ok h.down (by unfold FS.has; rw [h.len]; omega) (by omega) (by omega)
  by_cases hn : b = []
  · unfold FS.program FS.put
    rw [if_pos (.inr hn), hm, hn]
    simp only [List.length_nil, span_zero]
  · rw [FS.program_let hm hn, FS.let_whole h.armed]
    rfl

def puts (ps : List PutD) (s : FS) : FS := ps.foldl (fun s p => s.put p.place p.bytes) s
theorem Plain.puts {s : FS} (h : Plain s) (ps : List PutD) : Plain (puts ps s) := by
  induction ps generalizing s with
  | nil => exact h
  | cons p ps ih => exact ih (h.put _ _)

theorem sizePut (w : World) : (sizeOf 49).run Try.prog w = .ok 2 w := by kernel_rfl

theorem slice_puts (ad : Addr) (n cap hi : Nat) (x : Int) (hx : x = hi) (h : hi ≤ cap) (w : World) :
    (Instr.slice 46 (.slice (some ad) n cap) none (some (.int .i64 x)) none).run Try.prog w = .ok (.slice (some ad) hi cap) w := by
  subst hx
  rw [run_slice_h w 46 _ n cap Try.underlying46 .i64 hi (by omega) (by omega)]
  show ((sizeOf 49).run Try.prog w).andThen _ = _
  rw [sizePut]
  simp [Result.andThen, sliced, Addr.add]

/-- A flash that was handed back, new. -/
def Handed (w : World) (s : FS) (e : Ending) (w' : World) : Prop :=
  ∃ F B W M, e = .returned (.pointer (some ⟨F, 0, none⟩)) ∧ w.heap.size ≤ F ∧ w.heap.size ≤ B ∧ w.heap.size ≤ W ∧ FlashAt w' F B W M s ∧ Keeps [] w w'

set_option maxHeartbeats 1000000 in
theorem after_nil (w : World) : Calls Try.prog 22 #[.slice none 0 0] w (Handed w (FS.new 8)) := by
  go_enter Try.func22, Try.ntmps22
  go_wp2_with fail
  refine (New_ok _ 8 (by omega) (by omega)).mono ?_
  rintro e w1 ⟨F, B, W, M, rfl, gF, gB, gW, hF, hK⟩
  have H1 := Lib.hid hF
  have K1 := Lib.hid hK
  clear hF hK
  go_wp2
  refine wp_loop_rounds 1 ?_
  rw [rounds_succ]
  go_wp2
  go_ret
  exact ⟨F, B, W, M, rfl, gF, gB, gW, H1.out, K1.out⟩

set_option maxHeartbeats 1000000 in
theorem after_empty (w : World) (ad : Addr) (cap : Nat) : Calls Try.prog 22 #[.slice (some ad) 0 cap] w (Handed w (FS.new 8)) := by
  have hsl := slice_puts ad 0 cap 0 0 rfl (Nat.zero_le _)
  go_enter Try.func22, Try.ntmps22
  go_wp2_with fail
  refine (New_ok _ 8 (by omega) (by omega)).mono ?_
  rintro e w1 ⟨F, B, W, M, rfl, gF, gB, gW, hF, hK⟩
  have H1 := Lib.hid hF
  have K1 := Lib.hid hK
  clear hF hK
  go_wp2
  refine wp_loop_rounds 1 ?_
  rw [rounds_succ]
  go_wp2
  go_ret
  exact ⟨F, B, W, M, rfl, gF, gB, gW, H1.out, K1.out⟩

set_option maxHeartbeats 1000000 in
theorem after_some (w : World) (base : Nat) (b off n cap : Nat) (ps : List PutD) (hn : ps.length = n) (hcap : n ≤ cap) (hm : cap ≤ maxLen) 
    (hp : ∀ i p, ps[i]? = some p → p.ok w base ∧ w.cell? ⟨b, off + i * 2, none⟩ = some (.int .u16 p.word) ∧ w.cell? ⟨b, off + i * 2 + 1, none⟩ = some p.v) :
    Calls Try.prog 22 #[.slice (some ⟨b, off, none⟩) n cap] w (Handed w (puts (ps.take 20) (FS.new 8))) := by
  unfold maxLen at hm
  obtain ⟨m, hmm⟩ : ∃ m, min n 20 = m := ⟨_, rfl⟩
  have hm1 : m ≤ n := by omega
  have hm2 : m ≤ 20 := by omega
  have hsl := fun x hx w => slice_puts ⟨b, off, none⟩ n cap m x hx (by omega) w
  have hsl2 := hsl (m : Int) rfl
  have Hn := Lib.hid hn
  have Hm := Lib.hid hmm
  have Hp := Lib.hid hp
  have hmin : ((n : Int) ≤ 20 ∧ m = n) ∨ ((20 : Int) < n ∧ m = 20) := by omega
  clear hn hmm hp hsl
  rcases hmin with ⟨hc, he⟩ | ⟨hc, he⟩
  all_goals
    have He := Lib.hid he
    rw [he] at hsl2
    clear he
    go_enter Try.func22, Try.ntmps22
    go_wp2_with fail
    refine (New_ok _ 8 (by omega) (by omega)).mono ?_
    rintro e w1 ⟨F, B, W, M, rfl, gF, gB, gW, hF, hK⟩
    have H1 := Lib.hid hF
    have K1 := Lib.hid hK
    clear hF hK
    go_wp2
    go_loopw [19] (fun i wr => ∃ k : Nat, k ≤ m ∧ i = .int .i64 k ∧ FlashAt wr F B W M (puts (ps.take k) (FS.new 8)) ∧ Keeps [] w wr) (fun i _ => m - (intOf i).toNat)
    case atStart => exact ⟨0, Nat.zero_le _, rfl, H1.out, K1.out⟩
    case round =>
      obtain ⟨k, hk, rfl, hFr, hKr⟩ := hrel
      by_cases hlt : k < m
      · have hkn : k < ps.length := by have := Hn.out; omega
        have hlt0 := hlt
        first
        | rw [He.out] at hlt0
        | skip
        have hlt' : (k : Int) < _ := Int.ofNat_lt.2 hlt0
        obtain ⟨ok, q0, q1⟩ := Hp.out k ps[k] (List.getElem?_eq_getElem hkn)
        have Htk := Lib.hid (show ps.take (k + 1) = ps.take k ++ [ps[k]] from (List.take_succ_eq_append_getElem hkn))
        have ok1 := ok.keeps hKr (by simp)
        have r0 := hKr.cell q0 (by simp)
        have r1 := hKr.cell q1 (by simp)
        generalize ps[k] = p at *
        obtain ⟨ao, cv, hv⟩ := (readsShape ok1.reads)
        rw [hv] at r1
        have HV := Lib.hid hv
        have HF := Lib.hid hFr
        have HK := Lib.hid hKr
        have HOK := Lib.hid ok1
        have hpl := p.place_le
        have hbl := p.len_le
        have HPL := Lib.hid hpl
        clear hFr hKr ok ok1 q0 q1 hv hpl
        go_wp2_with fail
        rw [← HV.out]
        refine (at_some p _ base (HOK.out.keeps (Keeps.alloc [] wr _) (by simp))).mono ?_
        rintro e w2 ⟨bb, cc, rfl, hb2, hR2, hK2⟩
        have hk2 : Keeps [] wr w2 := (Keeps.alloc [] wr _).trans hK2
        have hF2 := HF.out.keeps hk2 (by simp) (by simp) (by simp) (by simp)
        have hP := (plain_new.puts (ps.take k)).program p.place p.bytes HPL.out.2 (by rw [p.bytes_length]; omega) (by rw [p.bytes_length]; exact HPL.out.1)
        have hlt2 := HF.out.lt
        simp only [World.size_alloc] at hb2
        have hcall := Program_yes w2 hF2 p.place _ p.bytes bb hR2.reads ⟨by omega, by omega⟩ (by rw [p.bytes_length]; omega)
        rw [hP, p.bytes_length] at hcall
        have HC := Lib.hid hcall
        have HK2 := Lib.hid hk2
        clear hcall hk2 hF2 hP hR2 hK2
        go_wp2_with fail
        refine HC.out.mono ?_
        rintro e w3 ⟨rfl, hF3, hK3⟩
        have HF3 := Lib.hid hF3
        have HK3 := Lib.hid (((HK.out.trans HK2.out)).then hK3 (fun x hx => by simp at hx; right; omega))
        clear hF3 hK3
        go_wp2
        go_roundw
        case rel => exact ⟨k + 1, by omega, by go_num, by rw [Htk.out]; unfold puts; rw [List.foldl_append]; exact HF3.out, HK3.out⟩
        case measure => simp [intOf]; omega
      · have hkm : k = m := by omega
        subst hkm
        have HF := Lib.hid hFr
        have HK := Lib.hid hKr
        have Ht := Lib.hid (show ps.take k = ps.take 20 by
          have h1 := Hn.out
          have h2 := Hm.out
          by_cases h20 : n ≤ 20
          · rw [List.take_of_length_le (by omega), List.take_of_length_le (by omega)]
          · rw [show k = 20 by omega])
        clear hFr hKr
        first
        | have hge1 : ¬ ((k : Int) < n) := by have := He.out; omega
        | have hge1 : ¬ ((k : Int) < 20) := by have := He.out; omega
        go_wp2
        go_ret
        rw [← Ht.out]
        exact ⟨F, B, W, M, rfl, gF, gB, gW, HF.out, HK.out⟩

theorem after_any (w : World) (base : Nat) (v : Value) (ps : List PutD) (hp : PutsAt w base v ps) :
    Calls Try.prog 22 #[v] w (Handed w (puts (ps.take 20) (FS.new 8))) := by
  rcases hp with ⟨rfl, rfl⟩ | ⟨ad, cap, rfl, hcap, hm, hp⟩
  · exact after_nil w
  · by_cases hps : ps = []
    · subst hps
      exact after_empty w ad cap
    · obtain ⟨b, off, spot⟩ := ad
      have h0 : 0 < ps.length := List.length_pos_iff.2 hps
      obtain ⟨_, _, c0, _⟩ := hp 0 ps[0] (List.getElem?_eq_getElem h0)
      have hs : spot = none := by
        cases spot with
        | none => rfl
        | some x =>
          exfalso
          simp only [Addr.add, Nat.zero_mul, if_true] at c0
          unfold World.cell? at c0
          split at c0
          · simp at c0
          · cases c0
      subst hs
      refine after_some w base b off ps.length cap ps rfl hcap hm fun i p hi => ?_
      obtain ⟨ok, _, q0, q1⟩ := hp i p hi
      rw [Addr.add_off] at q0 q1
      exact ⟨ok, q0, by rw [Nat.add_assoc]; exact q1⟩
end Go.Proofs.Ytpcgckppdnlccaa
