/-
  Keys and values: what changes mean, whole; and what no ring answers.
  Keys and values: the states of the examples (plain mathematics).
  Keys and values: lists of entries (plain mathematics).
-/
import Derived.Test.YtlnmbfddhdjioaaGreatCfgDo
import Derived.Test.YtlnmbfddhdjioaaGreatCfgM
namespace Go.Proofs.YtlnmbfddhdjioaaGreat
open Go.RowKit

theorem size_pay (what : UInt8) (ky vl : List UInt8) : sizeN (payL what ky vl).length = wE (ky, vl) := by unfold wE; rw [payL_length]

/-- A change of a flash that is not armed. -/
theorem Cfg.step {N first n k i t : Nat} {es : List Ent} {s : FS} (h : Cfg N first n k i t es s) (ha : s.armed = false) (hi : i < 90000) (p : List UInt8) (hp : p.length ≤ 200) (es' : List Ent) (hg : Good es') (hes : toldL p es = es') (hw : wtL es' ≤ 236) :
    ∃ (s' : FS) (k' i' : Nat), s.change first n k (BitVec.ofNat 32 i) p es' = (s', 0) ∧ s'.armed = false ∧ Cfg N first n k' i' (t + 1) es' s' ∧ i' ≤ i + 1 ∧
      ((endK (sec s.bs k) + sizeN p.length ≤ 256 ∧ k' = k ∧ i' = i ∧ s'.wear = s.wear ∧ endK (sec s'.bs k) = endK (sec s.bs k) + sizeN p.length ∧ s'.bs = put s.bs (k * 256 + endK (sec s.bs k)) (recB p)) ∨
       (256 < endK (sec s.bs k) + sizeN p.length ∧ i' = i + 1 ∧ s.pick k (lookL s.bs first n) = some (hdrAt s.bs k') ∧ endK (sec s'.bs k') = 20 + wtL es')) := by
  unfold FS.change
  rw [if_neg (by omega)]
  by_cases hfit : 256 < endK (sec s.bs k) + sizeN p.length
  · rw [if_pos hfit]
    obtain ⟨s', e, q, d, h1, h2, h3⟩ := h.turn es' hg hw (BitVec.ofNat 32 i + 1#32)
    have he : e = 0 := by
      rcases h2.went.err with he | he
      · exact he
      · have := (h2.went.torn he).2; rw [ha] at this; cases this
    subst he
    have hx : BitVec.ofNat 32 i + 1#32 = BitVec.ofNat 32 (i + 1) := by
      apply BitVec.eq_of_toNat_eq
      rw [BitVec.toNat_add, num_ofNat i (by omega), num_ofNat (i + 1) (by omega)]
      show (i + 1) % 2 ^ 32 = _
      omega
    rw [hx] at h1 h3
    rw [hx]
    rcases h3 with ⟨h3, h4, h5⟩ | ⟨h3, _⟩
    case inr => cases h3
    refine ⟨s', q, i + 1, h1, by rw [(h2.went.ok rfl).2]; exact ha, ?_, Nat.le_refl _, .inr ⟨hfit, rfl, h2.pick, h5⟩⟩
    exact ⟨by rw [h2.went.len]; exact h.len, by rw [h2.went.wl]; exact h.wl, (h2.went.ok rfl).1, h2.went.left, h.fit, h.n3, h2.newest h hi h3, h4, fun x hx => by have := h2.bound t h.wears x hx; omega⟩
  · rw [if_neg hfit]
    obtain ⟨s', e, h1, h2, h3, h4, h5, h6⟩ := h.append p hp (by omega)
    have he : e = 0 := by
      rcases h2.err with he | he
      · exact he
      · have := (h2.torn he).2; rw [ha] at this; cases this
    subst he
    refine ⟨s', k, i, h1, by rw [(h2.ok rfl).2]; exact ha, ?_, by omega, .inl ⟨by omega, rfl, rfl, h3, (h6 rfl).1, (h6 rfl).2⟩⟩
    refine ⟨by rw [h2.len]; exact h.len, by rw [h2.wl]; exact h.wl, (h2.ok rfl).1, h2.left, h.fit, h.n3, h4, ?_, fun x hx => by rw [h3] at hx; have := h.wears x hx; omega⟩
    rcases h5 with h5 | ⟨h5, _⟩
    · rw [h5, hes]
    · cases h5

def FS.setK (s : FS) (first n k i : Nat) (es : List Ent) (ky vl : List UInt8) : FS × Int :=
  if weightL ky vl = 0 then (s, 2) else if getK ky es = some vl then (s, 0) else s.change first n k (BitVec.ofNat 32 i) (payL 1 ky vl) (putK ky vl es)
def FS.delK (s : FS) (first n k i : Nat) (es : List Ent) (ky : List UInt8) : FS × Int :=
  if ¬ (1 ≤ ky.length ∧ ky.length ≤ 16) then (s, 2) else if getK ky es = none then (s, 60) else s.change first n k (BitVec.ofNat 32 i) (payL 2 ky []) (Go.Proofs.YtlnmbfddhdjioaaGreat.delK ky es)
def FS.opK (s : FS) (first n k i : Nat) (es : List Ent) (d : Nat) (ky vl : List UInt8) : FS × Int :=
  if d % 4 = 3 then s.delK first n k i es ky else s.setK first n k i es ky vl

def setE (es : List Ent) (ky vl : List UInt8) : List Ent × Int :=
  if weightL ky vl = 0 then (es, 2) else if getK ky es = some vl then (es, 0) else if 236 < wtL (putK ky vl es) then (es, 5) else (putK ky vl es, 0)
def delE (es : List Ent) (ky : List UInt8) : List Ent × Int :=
  if ¬ (1 ≤ ky.length ∧ ky.length ≤ 16) then (es, 2) else if getK ky es = none then (es, 60) else (delK ky es, 0)
def opE (es : List Ent) (d : Nat) (ky vl : List UInt8) : List Ent × Int := if d % 4 = 3 then delE es ky else setE es ky vl

theorem okE_of_weight {ky vl : List UInt8} (h0 : weightL ky vl ≠ 0) : OkE (ky, vl) := by
  unfold weightL at h0
  split at h0
  · rename_i h; exact ⟨h.1.1, h.1.2, h.2⟩
  · simp at h0

theorem Cfg.set_whole {N first n k i t : Nat} {es : List Ent} {s : FS} (h : Cfg N first n k i t es s) (ha : s.armed = false) (hi : i < 90000) (ky vl : List UInt8) :
    ∃ (s' : FS) (k' i' : Nat), s.setK first n k i es ky vl = (s', (setE es ky vl).2) ∧ s'.armed = false ∧ Cfg N first n k' i' (t + 1) (setE es ky vl).1 s' ∧ i' ≤ i + 1 := by
  unfold FS.setK setE
  by_cases h0 : weightL ky vl = 0
  · rw [if_pos h0, if_pos h0]; exact ⟨s, k, i, rfl, ha, h.worn (by omega), by omega⟩
  rw [if_neg h0, if_neg h0]
  by_cases h1 : getK ky es = some vl
  · rw [if_pos h1, if_pos h1]; exact ⟨s, k, i, rfl, ha, h.worn (by omega), by omega⟩
  rw [if_neg h1, if_neg h1]
  have hok := okE_of_weight h0
  by_cases h2 : 236 < wtL (putK ky vl es)
  · rw [if_pos h2]
    refine ⟨s, k, i, ?_, ha, h.worn (by omega), by omega⟩
    unfold FS.change; rw [if_pos h2]
  rw [if_neg h2]
  obtain ⟨s', k', i', q1, q2, q3, q4, _⟩ := h.step ha hi (payL 1 ky vl) (payE_le hok) (putK ky vl es) (h.good.put hok) (told_set hok es) (by omega)
  exact ⟨s', k', i', q1, q2, q3, q4⟩

theorem Cfg.del_whole {N first n k i t : Nat} {es : List Ent} {s : FS} (h : Cfg N first n k i t es s) (ha : s.armed = false) (hi : i < 90000) (ky : List UInt8) :
    ∃ (s' : FS) (k' i' : Nat), s.delK first n k i es ky = (s', (delE es ky).2) ∧ s'.armed = false ∧ Cfg N first n k' i' (t + 1) (delE es ky).1 s' ∧ i' ≤ i + 1 := by
  unfold FS.delK delE
  by_cases h0 : 1 ≤ ky.length ∧ ky.length ≤ 16
  case neg => rw [if_pos h0, if_pos h0]; exact ⟨s, k, i, rfl, ha, h.worn (by omega), by omega⟩
  have h0' : ¬ ¬ (1 ≤ ky.length ∧ ky.length ≤ 16) := fun h => h h0
  rw [if_neg h0', if_neg h0']
  by_cases h1 : getK ky es = none
  · rw [if_pos h1, if_pos h1]; exact ⟨s, k, i, rfl, ha, h.worn (by omega), by omega⟩
  rw [if_neg h1, if_neg h1]
  have hwt := wtL_del_le ky es
  have hr := h.room.1
  obtain ⟨s', k', i', q1, q2, q3, q4, _⟩ := h.step ha hi (payL 2 ky []) (by rw [payL_length]; simp; omega) (Go.Proofs.YtlnmbfddhdjioaaGreat.delK ky es) (h.good.del ky) (told_del h0.1 h0.2 es) (by omega)
  exact ⟨s', k', i', q1, q2, q3, q4⟩

theorem Cfg.op_whole {N first n k i t : Nat} {es : List Ent} {s : FS} (h : Cfg N first n k i t es s) (ha : s.armed = false) (hi : i < 90000) (d : Nat) (ky vl : List UInt8) :
    ∃ (s' : FS) (k' i' : Nat), s.opK first n k i es d ky vl = (s', (opE es d ky vl).2) ∧ s'.armed = false ∧ Cfg N first n k' i' (t + 1) (opE es d ky vl).1 s' ∧ i' ≤ i + 1 := by
  unfold FS.opK opE
  by_cases hd : d % 4 = 3
  · rw [if_pos hd, if_pos hd]; exact h.del_whole ha hi ky
  · rw [if_neg hd, if_neg hd]; exact h.set_whole ha hi ky vl

theorem Set_any {F B W N first n k i t : Nat} {es : List Ent} {s : FS} (w : World) (hF : FlashE w F B W s) (hc : Cfg N first n k i t es s) (hN : N ≤ 256) (ht : t < 1000000) (kv vv : Value) (ky vl : List UInt8) (hk0 : BytesAt 0 w kv ky) (hv0 : BytesAt 0 w vv vl) :
    Calls Tryz.prog 26 #[.pointer (some ⟨F, 0, none⟩), .agg #[.int .i64 first, .int .i64 n], kv, vv] w fun e w' => e = .returned (.int .i64 (s.setK first n k i es ky vl).2) ∧ FlashE w' F B W (s.setK first n k i es ky vl).1 ∧ Keeps [F, B, W] w w' := by
  unfold FS.setK
  by_cases h0 : weightL ky vl = 0
  · rw [if_pos h0]
    exact (Set_arg w hF hc kv vv ky vl hk0 hv0 h0).mono fun e w' ⟨h1, h2⟩ => ⟨h1, hF.keeps h2 (by simp) (by simp) (by simp) (by simp), h2.mono (by simp)⟩
  rw [if_neg h0]
  by_cases h1 : getK ky es = some vl
  · rw [if_pos h1]
    exact (Set_same w hF hc kv vv ky vl hk0 hv0 h0 h1).mono fun e w' ⟨h1, h2⟩ => ⟨h1, hF.keeps h2 (by simp) (by simp) (by simp) (by simp), h2.mono (by simp)⟩
  · rw [if_neg h1]
    exact Set_change w hF hc hN ht kv vv ky vl hk0 hv0 h0 h1

theorem Del_any {F B W N first n k i t : Nat} {es : List Ent} {s : FS} (w : World) (hF : FlashE w F B W s) (hc : Cfg N first n k i t es s) (hN : N ≤ 256) (ht : t < 1000000) (kv : Value) (ky : List UInt8) (hk0 : BytesAt 0 w kv ky) :
    Calls Tryz.prog 25 #[.pointer (some ⟨F, 0, none⟩), .agg #[.int .i64 first, .int .i64 n], kv] w fun e w' => e = .returned (.int .i64 (s.delK first n k i es ky).2) ∧ FlashE w' F B W (s.delK first n k i es ky).1 ∧ Keeps [F, B, W] w w' := by
  unfold FS.delK
  by_cases h0 : 1 ≤ ky.length ∧ ky.length ≤ 16
  case neg =>
    rw [if_pos h0]
    exact (Del_arg w hF hc kv ky hk0 h0).mono fun e w' ⟨h1, h2⟩ => ⟨h1, hF.keeps h2 (by simp) (by simp) (by simp) (by simp), h2.mono (by simp)⟩
  rw [if_neg (show ¬ ¬ (1 ≤ ky.length ∧ ky.length ≤ 16) from fun h => h h0)]
  by_cases h1 : getK ky es = none
  · rw [if_pos h1]
    exact (Del_key w hF hc kv ky hk0 h0 h1).mono fun e w' ⟨h1, h2⟩ => ⟨h1, hF.keeps h2 (by simp) (by simp) (by simp) (by simp), h2.mono (by simp)⟩
  · rw [if_neg h1]
    exact Del_change w hF hc hN ht kv ky hk0 h0 h1

/-! ### no ring -/
abbrev secA : Value := .agg #[.slice none 0 0, .int .i64 0, .int .u8 0, .int .u32 0, .int .i64 0, .map none]

set_option maxRecDepth 100000 in
set_option maxHeartbeats 2000000 in
theorem All_err (w : World) (p : Option Addr) (first n er : Int) (h0 : er ≠ 0) (hI : ∀ U, Keeps [] w U → Calls Tryz.prog 31 #[.pointer p, .agg #[.int .i64 first, .int .i64 n]] U fun e w' => e = .returned (.tuple #[.agg #[.slice none 0 0, .int .i64 0, .int .u8 0, .int .u32 0, .int .i64 0, .map none], .int .i64 er]) ∧ Keeps [] U w') :
    Calls Tryz.prog 13 #[.pointer p, .agg #[.int .i64 first, .int .i64 n]] w fun e w' => e = .returned (.tuple #[.slice none 0 0, .int .i64 er]) ∧ Keeps [] w w' := by
  have HI := Lib.hid hI
  clear hI
  have KV := Lib.hid (Keeps.alloc [] w (.cells #[.int .i64 first, .int .i64 n] 25))
  go_enter Tryz.func13, Tryz.ntmps13
  go_wp2_with (go_at_call 31; refine (HI.out _ KV.out).mono ?_; rintro e w1 ⟨rfl, k1⟩; have K1 := Lib.hid (KV.out.trans k1); clear k1)
  go_ret2
  exact ⟨rfl, K1.out.trans (Keeps.alloc [] _ _)⟩

set_option maxRecDepth 100000 in
set_option maxHeartbeats 2000000 in
theorem Get_err (w : World) (p : Option Addr) (first n er : Int) (kv : Value) (h0 : er ≠ 0) (hI : ∀ U, Keeps [] w U → Calls Tryz.prog 31 #[.pointer p, .agg #[.int .i64 first, .int .i64 n]] U fun e w' => e = .returned (.tuple #[.agg #[.slice none 0 0, .int .i64 0, .int .u8 0, .int .u32 0, .int .i64 0, .map none], .int .i64 er]) ∧ Keeps [] U w') :
    Calls Tryz.prog 15 #[.pointer p, .agg #[.int .i64 first, .int .i64 n], kv] w fun e w' => e = .returned (.tuple #[.slice none 0 0, .bool false, .int .i64 er]) ∧ Keeps [] w w' := by
  have HI := Lib.hid hI
  clear hI
  have KV := Lib.hid (Keeps.alloc [] w (.cells #[.int .i64 first, .int .i64 n] 25))
  go_enter Tryz.func15, Tryz.ntmps15
  go_wp2_with (go_at_call 31; refine (HI.out _ KV.out).mono ?_; rintro e w1 ⟨rfl, k1⟩; have K1 := Lib.hid (KV.out.trans k1); clear k1)
  go_ret3
  exact ⟨rfl, K1.out.trans (Keeps.alloc [] _ _)⟩

set_option maxRecDepth 100000 in
set_option maxHeartbeats 2000000 in
theorem Set_err (w : World) (p : Option Addr) (first n er : Int) (kv vv : Value) (h0 : er ≠ 0) (hI : ∀ U, Keeps [] w U → Calls Tryz.prog 31 #[.pointer p, .agg #[.int .i64 first, .int .i64 n]] U fun e w' => e = .returned (.tuple #[.agg #[.slice none 0 0, .int .i64 0, .int .u8 0, .int .u32 0, .int .i64 0, .map none], .int .i64 er]) ∧ Keeps [] U w') :
    Calls Tryz.prog 26 #[.pointer p, .agg #[.int .i64 first, .int .i64 n], kv, vv] w fun e w' => e = .returned (.int .i64 er) ∧ Keeps [] w w' := by
  have HI := Lib.hid hI
  clear hI
  have KV := Lib.hid (Keeps.alloc [] w (.cells #[.int .i64 first, .int .i64 n] 25))
  go_enter Tryz.func26, Tryz.ntmps26
  go_wp2_with (go_at_call 31; refine (HI.out _ KV.out).mono ?_; rintro e w1 ⟨rfl, k1⟩; have K1 := Lib.hid (KV.out.trans k1); clear k1)
  go_ret
  exact ⟨rfl, K1.out.trans (Keeps.alloc [] _ _)⟩

set_option maxRecDepth 100000 in
set_option maxHeartbeats 2000000 in
theorem Del_err (w : World) (p : Option Addr) (first n er : Int) (kv : Value) (h0 : er ≠ 0) (hI : ∀ U, Keeps [] w U → Calls Tryz.prog 31 #[.pointer p, .agg #[.int .i64 first, .int .i64 n]] U fun e w' => e = .returned (.tuple #[.agg #[.slice none 0 0, .int .i64 0, .int .u8 0, .int .u32 0, .int .i64 0, .map none], .int .i64 er]) ∧ Keeps [] U w') :
    Calls Tryz.prog 25 #[.pointer p, .agg #[.int .i64 first, .int .i64 n], kv] w fun e w' => e = .returned (.int .i64 er) ∧ Keeps [] w w' := by
  have HI := Lib.hid hI
  clear hI
  have KV := Lib.hid (Keeps.alloc [] w (.cells #[.int .i64 first, .int .i64 n] 25))
  go_enter Tryz.func25, Tryz.ntmps25
  go_wp2_with (go_at_call 31; refine (HI.out _ KV.out).mono ?_; rintro e w1 ⟨rfl, k1⟩; have K1 := Lib.hid (KV.out.trans k1); clear k1)
  go_ret
  exact ⟨rfl, K1.out.trans (Keeps.alloc [] _ _)⟩
end Go.Proofs.YtlnmbfddhdjioaaGreat

namespace Go.Proofs.YtlnmbfddhdjioaaGreat

def awA : List UInt8 := [97]
def awB : List UInt8 := [98]
def awC : List UInt8 := [99]
def awOne : List UInt8 := [49]
def awL (j : Nat) : List UInt8 := UInt8.ofNat j :: List.replicate 63 7
theorem awL_length (j : Nat) : (awL j).length = 64 := by simp [awL]

theorem put_single (k v : List UInt8) : putK k v ([] : List Ent) = [(k, v)] := rfl
theorem put_again (k v u : List UInt8) : putK k v [(k, u)] = [(k, v)] := by
  unfold putK delK
  simp [insK]
theorem get_single (k v : List UInt8) : getK k [(k, v)] = some v := by simp [getK]

theorem wE_len {k v : List UInt8} {a b : Nat} (h1 : k.length = a) (h2 : v.length = b) : wE (k, v) = sizeN (2 + a + b) := by unfold wE; rw [h1, h2]
theorem wt1 {k v : List UInt8} {a b : Nat} (h1 : k.length = a) (h2 : v.length = b) : wtL [(k, v)] = sizeN (2 + a + b) := by rw [wtL_cons, wE_len h1 h2]; rfl
theorem w_ok {k v : List UInt8} {a b : Nat} (h1 : k.length = a) (h2 : v.length = b) (ha : 1 ≤ a ∧ a ≤ 16) (hb : b ≤ 64) : weightL k v = sizeN (2 + a + b) := by
  unfold weightL; rw [if_pos (by omega), wE_len h1 h2]

/-- A key set to a value that it has not. -/
theorem Cfg.sets {N first n k i t : Nat} {es : List Ent} {s : FS} (h : Cfg N first n k i t es s) (ha : s.armed = false) (hi : i < 90000) (ky vl : List UInt8) (a b : Nat) (h1 : ky.length = a) (h2 : vl.length = b) (ha1 : 1 ≤ a ∧ a ≤ 16) (hb : b ≤ 64) (hg : getK ky es ≠ some vl) (hw : wtL (putK ky vl es) ≤ 236) :
    ∃ (s' : FS) (k' i' : Nat), s.setK first n k i es ky vl = (s', 0) ∧ s'.armed = false ∧ Cfg N first n k' i' (t + 1) (putK ky vl es) s' ∧
      ((endK (sec s.bs k) + sizeN (2 + a + b) ≤ 256 ∧ k' = k ∧ i' = i ∧ s'.wear = s.wear ∧ endK (sec s'.bs k) = endK (sec s.bs k) + sizeN (2 + a + b) ∧ s'.bs = put s.bs (k * 256 + endK (sec s.bs k)) (recB (payL 1 ky vl))) ∨
       (256 < endK (sec s.bs k) + sizeN (2 + a + b) ∧ i' = i + 1 ∧ s.pick k (lookL s.bs first n) = some (hdrAt s.bs k') ∧ endK (sec s'.bs k') = 20 + wtL (putK ky vl es))) := by
  have hw0 := w_ok h1 h2 ha1 hb
  have hne : weightL ky vl ≠ 0 := by rw [hw0]; unfold sizeN; omega
  have hok := okE_of_weight hne
  unfold FS.setK
  rw [if_neg hne, if_neg hg]
  obtain ⟨s', k', i', q1, q2, q3, q4, q5⟩ := h.step ha hi (payL 1 ky vl) (payE_le hok) (putK ky vl es) (h.good.put hok) (told_set hok es) hw
  rw [payL_length, h1, h2] at q5
  exact ⟨s', k', i', q1, q2, q3, q5⟩

theorem withHead_end {N : Nat} {s : FS} (h : NewN N s) (k : Nat) (hk : k < N) : endK (sec (s.withHead k (BitVec.ofNat 32 1)).bs k) = 20 := by
  have hlen := h.len
  have hle : k * 256 + 256 ≤ s.bs.length := by omega
  have e : sec (s.withHead k (BitVec.ofNat 32 1)).bs k = recB (headP (BitVec.ofNat 32 1)) ++ (itemsL (([] : List Ent).map itemE) ++ (sec s.bs k).drop (recB (headP (BitVec.ofNat 32 1))).length) := by
    show sec (put s.bs (k * 256) _) k = _
    rw [sec_put_same _ _ _ (by rw [head_length]; omega) hle]; rfl
  rw [e]
  exact (sector_full _ [] Good.nil _ (blank_drop_le (blank_sec h.all k) _)).2.2

/-- Of sectors that are worn alike the first one is picked. -/
theorem pick_first {s : FS} (hw : s.wear = List.replicate 8 0) : s.pick 1 (lookL s.bs 1 3) = some (hdrAt s.bs 2) := by
  have h0 : ∀ z : Nat, s.wearOf (z : Int) = 0 := by
    intro z
    unfold FS.wearOf
    split
    · rw [hw, Int.toNat_natCast, List.getD_eq_getElem?_getD, List.getElem?_replicate]; split <;> rfl
    · rfl
  have hL : lookL s.bs 1 3 = [hdrAt s.bs 1, hdrAt s.bs 2, hdrAt s.bs 3] := rfl
  rw [hL]
  have hs : ∀ j : Nat, (hdrAt s.bs j).sector = (j : Int) := fun _ => rfl
  have o1 : otherH 1 (hdrAt s.bs 1) = false := rfl
  have o2 : otherH 1 (hdrAt s.bs 2) = true := rfl
  have _o3 : otherH 1 (hdrAt s.bs 3) = true := rfl
  have f : s.fresher (hdrAt s.bs 3) (hdrAt s.bs 2) = false := by
    unfold FS.fresher; rw [hs, hs, h0, h0]; rfl
  have b1 : bestStep (otherH 1) s.fresher none (hdrAt s.bs 1) = none := by
    unfold bestStep; rw [if_neg (fun h => by rw [o1] at h; cases h.1)]
  have b2 : bestStep (otherH 1) s.fresher none (hdrAt s.bs 2) = some (hdrAt s.bs 2) := by
    unfold bestStep; rw [if_pos ⟨o2, fun c hc => by cases hc⟩]
  have b3 : bestStep (otherH 1) s.fresher (some (hdrAt s.bs 2)) (hdrAt s.bs 3) = some (hdrAt s.bs 2) := by
    unfold bestStep; rw [if_neg (fun h => by have := h.2 _ rfl; rw [f] at this; cases this)]
  show bestStep (otherH 1) s.fresher (bestStep (otherH 1) s.fresher (bestStep (otherH 1) s.fresher none (hdrAt s.bs 1)) (hdrAt s.bs 2)) (hdrAt s.bs 3) = _
  rw [b1, b2, b3]

theorem Cfg.set_mask {N first n k i t : Nat} {es : List Ent} {s : FS} (h : Cfg N first n k i t es s) (hm : s.mask = []) (ky vl : List UInt8) : (s.setK first n k i es ky vl).1.mask = [] := by
  unfold FS.setK
  split
  · exact hm
  · rename_i h0
    split
    · exact hm
    · have hok := okE_of_weight h0
      rcases h.change_mask (BitVec.ofNat 32 i) (payL 1 ky vl) (payE_le hok) (putK ky vl es) (h.good.put hok) with h1 | h1
      · rw [h1, hm]
      · exact h1

theorem Cfg.del_mask {N first n k i t : Nat} {es : List Ent} {s : FS} (h : Cfg N first n k i t es s) (hm : s.mask = []) (ky : List UInt8) : (s.delK first n k i es ky).1.mask = [] := by
  unfold FS.delK
  split
  · exact hm
  · rename_i h0
    split
    · exact hm
    · rcases h.change_mask (BitVec.ofNat 32 i) (payL 2 ky []) (by rw [payL_length]; simp; omega) (Go.Proofs.YtlnmbfddhdjioaaGreat.delK ky es) (h.good.del ky) with h1 | h1
      · rw [h1, hm]
      · exact h1

theorem Cfg.op_mask {N first n k i t : Nat} {es : List Ent} {s : FS} (h : Cfg N first n k i t es s) (hm : s.mask = []) (d : Nat) (ky vl : List UInt8) : (s.opK first n k i es d ky vl).1.mask = [] := by
  unfold FS.opK
  split
  · exact h.del_mask hm ky
  · exact h.set_mask hm ky vl

structure Aw (j : Nat) (s : FS) : Prop where
  armed : s.armed = false
  mask : s.mask = []
  here : j ≤ 2 → Cfg 8 1 3 1 1 (5 + j) [(awA, if j = 0 then awOne else awL (j - 1))] s ∧ endK (sec s.bs 1) = 36 + 80 * j ∧ s.wear = List.replicate 8 0
  there : 2 < j → Cfg 8 1 3 2 2 (5 + j) [(awA, awL 2)] s ∧ endK (sec s.bs 2) = 100

theorem awL_ne {i j : Nat} (hi : i < 3) (hj : j < 3) (h : i ≠ j) : awL i ≠ awL j := by
  intro e
  have := (List.cons.inj e).1
  have h2 := congrArg UInt8.toNat this
  simp at h2
  omega

theorem aw_start {s : FS} (h : NewN 8 s) (hl : 0 ≤ s.left) (hm : s.mask = []) : ∃ s', (s.withHead 1 (BitVec.ofNat 32 1)).setK 1 3 1 1 [] awA awOne = (s', 0) ∧ Aw 0 s' ∧ s'.bs = put (s.withHead 1 (BitVec.ofNat 32 1)).bs 276 (recB (payL 1 awA awOne)) := by
  obtain ⟨hc, _⟩ := h.cfg 1 3 (by omega) (by omega) hl
  have he := withHead_end h 1 (by omega)
  obtain ⟨s', k', i', q1, q2, q3, q4⟩ := hc.sets h.armed (by omega) awA awOne 1 1 rfl rfl (by omega) (by omega) (by simp [getK]) (by rw [put_single, wt1 (a := 1) (b := 1) rfl rfl]; decide)
  rw [he] at q4
  have hz : sizeN (2 + 1 + 1) = 16 := by decide
  rw [hz] at q4
  rcases q4 with ⟨_, rfl, rfl, z1, z2, z3⟩ | ⟨z0, _⟩
  case inr => omega
  have hmm := hc.set_mask (s := s.withHead 1 (BitVec.ofNat 32 1)) hm awA awOne
  rw [q1] at hmm
  refine ⟨s', q1, ⟨q2, hmm, fun _ => ⟨?_, by rw [z2], ?_⟩, fun h => by omega⟩, z3⟩
  · exact q3.worn (by omega)
  · rw [z1]; exact h.wear

theorem Aw.step {j : Nat} {s : FS} (h : Aw j s) (hj : j < 3) : ∃ s', s.setK 1 3 1 1 [(awA, if j = 0 then awOne else awL (j - 1))] awA (awL j) = (s', 0) ∧ Aw (j + 1) s' := by
  obtain ⟨hc, he, hw⟩ := h.here (by omega)
  have hz : sizeN (2 + 1 + 64) = 80 := by decide
  obtain ⟨s', k', i', q1, q2, q3, q4⟩ := hc.sets h.armed (by omega) awA (awL j) 1 64 rfl (awL_length j) (by omega) (by omega) (by
    rw [get_single]
    intro e
    have e := Option.some.inj e
    by_cases h0 : j = 0
    · subst h0; have := congrArg List.length e; rw [if_pos rfl, awL_length] at this; simp [awOne] at this
    · rw [if_neg h0] at e; exact awL_ne (by omega) hj (by omega) e) (by rw [put_again, wt1 (a := 1) rfl (awL_length j)]; decide)
  rw [put_again] at q3
  rw [he, hz, put_again] at q4
  have hmm := hc.set_mask h.mask awA (awL j)
  rw [q1] at hmm
  refine ⟨s', q1, ?_⟩
  by_cases h2 : j = 2
  · subst h2
    rcases q4 with ⟨z0, _⟩ | ⟨_, rfl, z2, z3⟩
    · omega
    have z2 : s.pick 1 (lookL s.bs 1 3) = some (hdrAt s.bs k') := z2
    rw [pick_first hw] at z2
    have hk : k' = 2 := by
      have := congrArg (Option.map Hdr.sector) z2
      simp only [Option.map_some] at this
      have := Option.some.inj this
      have h3 : ((2 : Nat) : Int) = (k' : Int) := this
      omega
    subst hk
    refine ⟨q2, hmm, fun h => by omega, fun _ => ⟨q3, ?_⟩⟩
    rw [z3, wt1 (a := 1) rfl (awL_length 2)]; decide
  · rcases q4 with ⟨_, rfl, rfl, z1, z2, _⟩ | ⟨z0, _⟩
    case inr => omega
    refine ⟨q2, hmm, fun _ => ⟨?_, by rw [z2]; omega, by rw [z1]; exact hw⟩, fun h => by omega⟩
    rw [if_neg (by omega), show j + 1 - 1 = j by omega]
    exact q3

theorem Aw.last {s : FS} (h : Aw 3 s) : ∃ s', s.setK 1 3 2 2 [(awA, awL 2)] awB (awL 2) = (s', 0) ∧ s'.mask = [] ∧ Cfg 8 1 3 2 2 9 [(awA, awL 2), (awB, awL 2)] s' ∧ s'.setK 1 3 2 2 [(awA, awL 2), (awB, awL 2)] awC (awL 2) = (s', 5) ∧ getK awB [(awA, awL 2), (awB, awL 2)] = some (awL 2) := by
  obtain ⟨hc, he⟩ := h.there (by omega)
  have hz : sizeN (2 + 1 + 64) = 80 := by decide
  have hl := awL_length 2
  have hp : putK awB (awL 2) [(awA, awL 2)] = [(awA, awL 2), (awB, awL 2)] := by
    unfold putK delK
    simp [awA, awB, insK, bytesBefore]
  have hp2 : putK awC (awL 2) [(awA, awL 2), (awB, awL 2)] = [(awA, awL 2), (awB, awL 2), (awC, awL 2)] := by
    unfold putK delK
    simp [awA, awB, awC, insK, bytesBefore]
  have w1 : wE (awA, awL 2) = 80 := by rw [wE_len (a := 1) rfl hl, hz]
  have w2 : wE (awB, awL 2) = 80 := by rw [wE_len (a := 1) rfl hl, hz]
  have w3 : wE (awC, awL 2) = 80 := by rw [wE_len (a := 1) rfl hl, hz]
  obtain ⟨s', k', i', q1, q2, q3, q4⟩ := hc.sets h.armed (by omega) awB (awL 2) 1 64 rfl hl (by omega) (by omega) (by simp [getK, awA, awB]) (by rw [hp, wtL_cons, wtL_cons, w1, w2]; decide)
  have hmm := hc.set_mask h.mask awB (awL 2)
  rw [q1] at hmm
  rw [hp] at q3
  rw [he, hz, hp] at q4
  rcases q4 with ⟨_, rfl, rfl, _⟩ | ⟨z0, _⟩
  case inr => omega
  refine ⟨s', q1, hmm, q3, ?_, by simp [getK, awA, awB]⟩
  unfold FS.setK
  rw [if_neg (by rw [w_ok (a := 1) (b := 64) rfl hl (by omega) (by omega), hz]; decide), if_neg (by simp [getK, awA, awB, awC])]
  unfold FS.change
  rw [hp2, if_pos (by rw [wtL_cons, wtL_cons, wtL_cons, w1, w2, w3]; decide)]

set_option maxRecDepth 10000 in
theorem aw_read {s s' : FS} (hl : s.bs.length = 2048) (h : s'.bs = put s.bs 276 (recB (payL 1 awA awOne))) : (s'.part 276 4 == [0, 4, 255, 251]) = true := by
  have hr : (recB (payL 1 awA awOne)).length = 16 := by rw [recB_length]; decide
  have e : (s'.bs.drop 276).take 4 = (recB (payL 1 awA awOne)).take 4 := by
    rw [h]
    apply List.ext_getElem?
    intro i
    rw [List.getElem?_take, List.getElem?_take]
    by_cases hi : i < 4
    · rw [if_pos hi, if_pos hi, List.getElem?_drop, put_get s.bs 276 (recB (payL 1 awA awOne)) (by rw [hr, hl]; decide), if_pos (by rw [hr]; omega)]
      congr 1
      omega
    · rw [if_neg hi, if_neg hi]
  show ((s'.bs.drop 276).take 4 == _) = true
  rw [e]
  rfl
end Go.Proofs.YtlnmbfddhdjioaaGreat

namespace Go.Proofs.YtlnmbfddhdjioaaGreat

theorem Rise.nodup {α : Type} {l : List (List UInt8 × α)} (h : Rise l) : l.Nodup := h.ne.imp fun h e => h (by rw [e])

theorem rise_mem {α : Type} {l m : List (List UInt8 × α)} (hl : Rise l) (hm : Rise m) (h : ∀ y, y ∈ l ↔ y ∈ m) : l = m :=
  rise_unique hl hm ((List.perm_ext_iff_of_nodup hl.nodup hm.nodup).2 h)

theorem put_same {α : Type} {l : List (List UInt8 × α)} (hl : Rise l) {k : List UInt8} {v : α} (h : getK k l = some v) : putK k v l = l := by
  refine rise_mem (hl.put k v) hl fun y => ?_
  rw [mem_put]
  constructor
  · rintro (rfl | ⟨h1, _⟩)
    · exact get_mem h
    · exact h1
  · intro hy
    by_cases e : y.1 = k
    · left
      have := get_of_mem hl.ne (show (y.1, y.2) ∈ l from hy)
      rw [e, h] at this
      cases this
      rw [← e]
    · exact .inr ⟨hy, e⟩

theorem get_put {α : Type} {l : List (List UInt8 × α)} (hl : Rise l) (k : List UInt8) (v : α) : getK k (putK k v l) = some v := get_of_mem (hl.put k v).ne (mem_put.2 (.inl rfl))
theorem get_put_ne {α : Type} {l : List (List UInt8 × α)} (hl : Rise l) {k j : List UInt8} (v : α) (h : j ≠ k) : getK j (putK k v l) = getK j l := by
  cases hj : getK j l with
  | some x => exact get_of_mem (hl.put k v).ne (mem_put.2 (.inr ⟨get_mem hj, h⟩))
  | none =>
    rw [get_none] at hj ⊢
    intro y hy
    rcases mem_put.1 hy with rfl | ⟨h1, _⟩
    · exact fun e => h e.symm
    · exact hj y h1
theorem get_del {α : Type} (l : List (List UInt8 × α)) (k : List UInt8) : getK k (delK k l) = none := by
  rw [get_none]; intro y hy; exact (mem_del.1 hy).2
theorem get_del_ne {α : Type} {l : List (List UInt8 × α)} (hl : Rise l) {k j : List UInt8} (h : j ≠ k) : getK j (delK k l) = getK j l := by
  cases hj : getK j l with
  | some x => exact get_of_mem (hl.del k).ne (mem_del.2 ⟨get_mem hj, h⟩)
  | none =>
    rw [get_none] at hj ⊢
    intro y hy
    exact hj y (mem_del.1 hy).1
theorem del_count {α : Type} {l : List (List UInt8 × α)} (hl : Rise l) (k : List UInt8) : (delK k l).length + (if (getK k l).isSome then 1 else 0) = l.length := by
  cases h : getK k l with
  | none => rw [del_none h]; simp
  | some v =>
    have := congrArg List.length (put_same hl h)
    unfold putK at this
    rw [ins_length] at this
    simpa using this

/-! ### what a change makes, asked -/
def aftE (es : List Ent) (d : Nat) (ky vl : List UInt8) : List Ent := if d % 4 = 3 then delK ky es else putK ky vl es

def othersB (ky : List UInt8) (was now : List Ent) : Bool := was.all fun x => x.1 == ky || getK x.1 now == some x.2
def behindB (d : Nat) (ky vl : List UInt8) (was now : List Ent) : Bool :=
  (if d % 4 = 3 then (getK ky now).isNone else getK ky now == some vl) && (othersB ky was now && decide (now.length + (if (getK ky was).isSome then 1 else 0) = was.length + (if d % 4 = 3 then 0 else 1)))

theorem behind_aft {es : List Ent} (hr : Rise es) (d : Nat) (ky vl : List UInt8) : behindB d ky vl es (aftE es d ky vl) = true := by
  unfold behindB aftE
  have hc := del_count hr ky
  by_cases hd : d % 4 = 3
  · simp only [hd, if_true]
    simp only [Bool.and_eq_true, decide_eq_true_eq]
    refine ⟨by rw [get_del]; rfl, ?_, by omega⟩
    unfold othersB
    rw [List.all_eq_true]
    intro x hx
    by_cases e : x.1 = ky
    · simp [e]
    · rw [get_del_ne hr e, get_of_mem hr.ne (show (x.1, x.2) ∈ es from hx)]; simp
  · simp only [hd, if_false]
    simp only [Bool.and_eq_true, decide_eq_true_eq]
    refine ⟨by rw [get_put hr]; simp, ?_, ?_⟩
    · unfold othersB
      rw [List.all_eq_true]
      intro x hx
      by_cases e : x.1 = ky
      · simp [e]
      · rw [get_put_ne hr vl e, get_of_mem hr.ne (show (x.1, x.2) ∈ es from hx)]; simp
    · unfold putK; rw [ins_length]; omega
end Go.Proofs.YtlnmbfddhdjioaaGreat
