/-
  Keys and values: mathematics. Rows of entries by rising keys; what a payload tells; what records leave. No function of the program is named here.
-/
import Derived.Test.YtlnmbfddhdjioaaGreatRingBase
import Derived.Maps.OwnSet
namespace Go.Proofs.YtlnmbfddhdjioaaGreat
open Go.RowKit

abbrev Ent := List UInt8 × List UInt8

def insK {α : Type} (x : List UInt8 × α) : List (List UInt8 × α) → List (List UInt8 × α)
  | [] => [x]
  | y :: r => if bytesBefore x.1 y.1 = true then x :: y :: r else y :: insK x r
def delK {α : Type} (k : List UInt8) (l : List (List UInt8 × α)) : List (List UInt8 × α) := l.filter fun p => !(p.1 == k)
def putK {α : Type} (k : List UInt8) (v : α) (l : List (List UInt8 × α)) : List (List UInt8 × α) := insK (k, v) (delK k l)
def getK {α : Type} (k : List UInt8) (l : List (List UInt8 × α)) : Option α := (l.find? fun p => p.1 == k).map (·.2)
def mapK {α β : Type} (f : α → β) (l : List (List UInt8 × α)) : List (List UInt8 × β) := l.map fun p => (p.1, f p.2)

theorem mapK_ins {α β : Type} (f : α → β) (x : List UInt8 × α) : ∀ l, mapK f (insK x l) = insK (x.1, f x.2) (mapK f l)
  | [] => rfl
  | y :: r => by
    unfold insK
    by_cases h : bytesBefore x.1 y.1 = true
    · simp [mapK, h]
    · have ih := mapK_ins f x r
      simp only [mapK] at ih
      simp [mapK, h, ih]
theorem mapK_del {α β : Type} (f : α → β) (k : List UInt8) (l : List (List UInt8 × α)) : mapK f (delK k l) = delK k (mapK f l) := by
  simp only [mapK, delK, List.filter_map]; congr 1
theorem mapK_put {α β : Type} (f : α → β) (k : List UInt8) (v : α) (l : List (List UInt8 × α)) : mapK f (putK k v l) = putK k (f v) (mapK f l) := by
  unfold putK; rw [mapK_ins, mapK_del]
theorem mapK_get {α β : Type} (f : α → β) (k : List UInt8) (l : List (List UInt8 × α)) : getK k (mapK f l) = (getK k l).map f := by
  simp only [getK, mapK, List.find?_map, Option.map_map]; rfl
theorem mapK_length {α β : Type} (f : α → β) (l : List (List UInt8 × α)) : (mapK f l).length = l.length := by simp [mapK]

theorem mem_ins {α : Type} (x : List UInt8 × α) : ∀ (l : List (List UInt8 × α)) (y : List UInt8 × α), y ∈ insK x l ↔ y = x ∨ y ∈ l
  | [], y => by simp [insK]
  | z :: r, y => by
    unfold insK
    split
    · simp
    · simp [mem_ins x r y]; constructor
      · rintro (h | h | h) <;> simp [h]
      · rintro (h | h | h) <;> simp [h]
theorem mem_del {α : Type} {k : List UInt8} {l : List (List UInt8 × α)} {y : List UInt8 × α} : y ∈ delK k l ↔ y ∈ l ∧ y.1 ≠ k := by simp [delK]
theorem mem_put {α : Type} {k : List UInt8} {v : α} {l : List (List UInt8 × α)} {y : List UInt8 × α} : y ∈ putK k v l ↔ y = (k, v) ∨ (y ∈ l ∧ y.1 ≠ k) := by
  unfold putK; rw [mem_ins, mem_del]
theorem ins_length {α : Type} (x : List UInt8 × α) : ∀ l : List (List UInt8 × α), (insK x l).length = l.length + 1
  | [] => rfl
  | z :: r => by
    unfold insK
    split
    · simp
    · simp [ins_length x r]
theorem del_length {α : Type} (k : List UInt8) (l : List (List UInt8 × α)) : (delK k l).length ≤ l.length := List.length_filter_le _ _
theorem put_lengthK {α : Type} (k : List UInt8) (v : α) (l : List (List UInt8 × α)) : (putK k v l).length ≤ l.length + 1 := by
  unfold putK; rw [ins_length]; have := del_length k l; omega

/-- The row as a map's datum, each element told by its value alone. -/
def dat (l : List (List UInt8 × Value)) : DataW Value := .map (l.map fun p => (.string p.1, .held p.2))

theorem dat_ins (x : List UInt8 × Value) : ∀ l : List (List UInt8 × Value), DataW.insert (.string x.1, .held x.2) (l.map fun p => (Lit.string p.1, DataW.held p.2)) = (insK x l).map fun p => (Lit.string p.1, DataW.held p.2)
  | [] => rfl
  | y :: r => by
    simp only [List.map_cons]
    unfold DataW.insert insK
    by_cases h : bytesBefore x.1 y.1 = true
    · simp [Lit.before, h]
    · simp [Lit.before, h, dat_ins x r]
theorem dat_del (l : List (List UInt8 × Value)) (k : List UInt8) : (dat l).del (.string k) = dat (delK k l) := by
  unfold dat
  rw [DataW.del_eq]
  simp only [ChangeMaps.delKey, delK, List.filter_map]
  congr 1
theorem dat_put (l : List (List UInt8 × Value)) (k : List UInt8) (v : Value) : (dat l).put (.string k) (.held v) = dat (putK k v l) := by
  unfold dat putK
  rw [DataW.put_eq, ← dat_ins]
  simp only [ChangeMaps.putKey, delK, List.filter_map]
  congr 1
theorem dat_has (l : List (List UInt8 × Value)) (k : List UInt8) : Maps.has (dat l) (.string k) = (getK k l).isSome := by
  unfold dat getK
  rw [Maps.has_eq, List.any_map]
  simp only [Option.isSome_map, Function.comp_def, Lit.sameKey]
  rw [Bool.eq_iff_iff]; simp
theorem dat_at (l : List (List UInt8 × Value)) (k : List UInt8) (z : DataW Value) : (dat l).atKey (.string k) z = ((getK k l).map DataW.held).getD z := by
  unfold dat getK DataW.atKey
  simp only [List.find?_map, Function.comp_def, Lit.sameKey]
  cases List.find? (fun p => p.1 == k) l <;> rfl
theorem dat_size (l : List (List UInt8 × Value)) : Maps.size (dat l) = l.length := by simp [dat, Maps.size]

/-! ### rising keys -/
def Rise {α : Type} (l : List (List UInt8 × α)) : Prop := l.Pairwise fun a b => bytesBefore a.1 b.1 = true

theorem Rise.del {α : Type} {l : List (List UInt8 × α)} (h : Rise l) (k : List UInt8) : Rise (delK k l) := List.Pairwise.filter _ h
theorem rise_ins {α : Type} (x : List UInt8 × α) : ∀ l : List (List UInt8 × α), Rise l → (∀ y ∈ l, y.1 ≠ x.1) → Rise (insK x l)
  | [], _, _ => by simp [insK, Rise]
  | y :: r, h, hne => by
    obtain ⟨h1, h2⟩ := List.pairwise_cons.1 h
    unfold insK
    by_cases hb : bytesBefore x.1 y.1 = true
    · rw [if_pos hb]
      refine List.pairwise_cons.2 ⟨fun z hz => ?_, h⟩
      rcases List.mem_cons.1 hz with rfl | hz
      · exact hb
      · exact WideShapes.bytes_trans _ _ _ hb (h1 z hz)
    · rw [if_neg hb]
      refine List.pairwise_cons.2 ⟨fun z hz => ?_, rise_ins x r h2 (fun z hz => hne z (List.mem_cons_of_mem _ hz))⟩
      rcases (mem_ins x r z).1 hz with rfl | hz
      · exact (WideAt.bytes_total _ _ (hne y (List.mem_cons_self))).resolve_right hb
      · exact h1 z hz
theorem Rise.put {α : Type} {l : List (List UInt8 × α)} (h : Rise l) (k : List UInt8) (v : α) : Rise (putK k v l) :=
  rise_ins _ _ (h.del k) fun _ hy => (mem_del.1 hy).2
theorem Rise.mapK {α β : Type} {l : List (List UInt8 × α)} (f : α → β) : Rise (mapK f l) ↔ Rise l := by
  unfold Rise Go.Proofs.YtlnmbfddhdjioaaGreat.mapK; rw [List.pairwise_map]
theorem before_ne {a b : List UInt8} (h : bytesBefore a b = true) : a ≠ b := fun e => by
  subst e; rw [WideAt.bytes_irrefl] at h; cases h
theorem Rise.ne {α : Type} {l : List (List UInt8 × α)} (h : Rise l) : l.Pairwise fun a b => a.1 ≠ b.1 := h.imp before_ne
theorem before_asym {a b : List UInt8} (h : bytesBefore a b = true) : bytesBefore b a = false := by
  cases hb : bytesBefore b a with
  | false => rfl
  | true => have := WideShapes.bytes_trans _ _ _ h hb; rw [WideAt.bytes_irrefl] at this; cases this

/-- Two rising rows with the same members are one. -/
theorem rise_unique {α : Type} : ∀ {l m : List (List UInt8 × α)}, Rise l → Rise m → l.Perm m → l = m := by
  intro l m hl hm hp
  refine List.Perm.eq_of_pairwise (le := fun a b : List UInt8 × α => bytesBefore a.1 b.1 = true) ?_ hl hm hp
  intro a b ha hb h1 h2
  have := before_asym h1
  rw [h2] at this; cases this

theorem get_mem {α : Type} {k : List UInt8} {l : List (List UInt8 × α)} {v : α} (h : getK k l = some v) : (k, v) ∈ l := by
  unfold getK at h
  obtain ⟨p, hp, rfl⟩ := Option.map_eq_some_iff.1 h
  have h1 := List.find?_some hp
  have h2 := List.mem_of_find?_eq_some hp
  rw [← (beq_iff_eq.1 h1)]; exact h2
theorem get_of_mem {α : Type} {k : List UInt8} {v : α} : ∀ {l : List (List UInt8 × α)}, (l.Pairwise fun a b => a.1 ≠ b.1) → (k, v) ∈ l → getK k l = some v
  | y :: r, hp, hm => by
    obtain ⟨h1, h2⟩ := List.pairwise_cons.1 hp
    unfold getK
    rw [List.find?_cons]
    rcases List.mem_cons.1 hm with rfl | hm
    · simp
    · have : (y.1 == k) = false := by simpa using h1 _ hm
      rw [this]
      exact get_of_mem h2 hm
theorem get_none {α : Type} {k : List UInt8} {l : List (List UInt8 × α)} : getK k l = none ↔ ∀ y ∈ l, y.1 ≠ k := by
  unfold getK; simp
theorem del_none {α : Type} {k : List UInt8} {l : List (List UInt8 × α)} (h : getK k l = none) : delK k l = l := by
  unfold delK; rw [List.filter_eq_self]; intro y hy; simpa using get_none.1 h y hy

/-! ### weights -/
structure OkE (e : Ent) : Prop where
  k1 : 1 ≤ e.1.length
  k16 : e.1.length ≤ 16
  v64 : e.2.length ≤ 64
def wE (e : Ent) : Nat := sizeN (2 + e.1.length + e.2.length)
def weightL (k v : List UInt8) : Nat := if (1 ≤ k.length ∧ k.length ≤ 16) ∧ v.length ≤ 64 then wE (k, v) else 0
def wtL (es : List Ent) : Nat := (es.map wE).sum

theorem wE_ge (e : Ent) : 16 ≤ wE e ∨ e.1.length = 0 := by unfold wE sizeN fillN; omega
theorem wE_pos (e : Ent) : 12 ≤ wE e := by unfold wE sizeN; omega
theorem wE_le {e : Ent} (h : OkE e) : wE e ≤ 96 := by have := h.k16; have := h.v64; unfold wE sizeN fillN; omega
theorem wE_mod (e : Ent) : wE e % 4 = 0 := sizeN_mod _
theorem wtL_mod : ∀ es : List Ent, wtL es % 4 = 0
  | [] => rfl
  | e :: r => by have := wE_mod e; have := wtL_mod r; simp only [wtL, List.map_cons, List.sum_cons] at *; omega
theorem wtL_cons (e : Ent) (r : List Ent) : wtL (e :: r) = wE e + wtL r := rfl
theorem wtL_append (l m : List Ent) : wtL (l ++ m) = wtL l + wtL m := by simp [wtL]
theorem wtL_ins (x : Ent) : ∀ l : List Ent, wtL (insK x l) = wE x + wtL l
  | [] => rfl
  | y :: r => by
    unfold insK
    split
    · rfl
    · rw [wtL_cons, wtL_ins x r, wtL_cons]; omega
theorem wtL_put (k v : List UInt8) (l : List Ent) : wtL (putK k v l) = wE (k, v) + wtL (delK k l) := wtL_ins _ _
theorem wtL_del_le (k : List UInt8) : ∀ l : List Ent, wtL (delK k l) ≤ wtL l
  | [] => Nat.le_refl _
  | y :: r => by
    have ih := wtL_del_le k r
    unfold delK at *
    rw [List.filter_cons]
    split <;> simp only [wtL_cons] <;> omega
theorem wtL_length : ∀ l : List Ent, 12 * l.length ≤ wtL l
  | [] => Nat.le_refl _
  | y :: r => by have := wtL_length r; have := wE_pos y; rw [wtL_cons, List.length_cons]; omega
theorem wtL_perm {l m : List Ent} (h : l.Perm m) : wtL l = wtL m := (h.map _).sum_nat

/-! ### payloads -/
def payL (what : UInt8) (k v : List UInt8) : List UInt8 := what :: UInt8.ofNat k.length :: (k ++ v)
theorem payL_length (what : UInt8) (k v : List UInt8) : (payL what k v).length = 2 + k.length + v.length := by simp [payL]; omega

def toldL (p : List UInt8) (es : List Ent) : List Ent :=
  match p with
  | what :: n :: rest =>
    if n.toNat ≤ rest.length ∧ 1 ≤ n.toNat ∧ n.toNat ≤ 16 then
      (if what = 1 ∧ (rest.drop n.toNat).length ≤ 64 then putK (rest.take n.toNat) (rest.drop n.toNat) es
       else if what = 2 ∧ (rest.drop n.toNat).length = 0 then delK (rest.take n.toNat) es else es)
    else es
  | _ => es

theorem told_set {k v : List UInt8} (h : OkE (k, v)) (es : List Ent) : toldL (payL 1 k v) es = putK k v es := by
  have h1 := h.k1; have h2 := h.k16; have h3 := h.v64
  simp only at h1 h2 h3
  have e : (UInt8.ofNat k.length).toNat = k.length := by simp; omega
  unfold toldL payL
  simp only [e, List.length_append]
  rw [if_pos ⟨by omega, h1, h2⟩]
  simp [h3]
theorem told_del {k : List UInt8} (h1 : 1 ≤ k.length) (h2 : k.length ≤ 16) (es : List Ent) : toldL (payL 2 k []) es = delK k es := by
  have e : (UInt8.ofNat k.length).toNat = k.length := by simp; omega
  unfold toldL payL
  simp only [e, List.append_nil]
  rw [if_pos ⟨by omega, h1, h2⟩]
  simp

/-- what records leave -/
def recStep (es : List Ent) (x : Nat × R4) : List Ent := if x.2.kind = 1 then toldL x.2.pay es else es
def entL (l : List (Nat × R4)) : List Ent := l.foldl recStep []
theorem entL_snoc (l : List (Nat × R4)) (x : Nat × R4) : entL (l ++ [x]) = recStep (entL l) x := by simp [entL]
theorem entL_take (l : List (Nat × R4)) (k : Nat) (x : Nat × R4) (h : l[k]? = some x) : entL (l.take (k + 1)) = recStep (entL (l.take k)) x := by
  rw [List.take_add_one, h]; exact entL_snoc _ _

structure Good (es : List Ent) : Prop where
  rise : Rise es
  ok : ∀ e ∈ es, OkE e
theorem Good.nil : Good [] := ⟨List.Pairwise.nil, by simp⟩
theorem Good.put {es : List Ent} (h : Good es) {k v : List UInt8} (hk : OkE (k, v)) : Good (putK k v es) :=
  ⟨h.rise.put k v, fun e he => by
    rcases mem_put.1 he with rfl | ⟨he, _⟩
    · exact hk
    · exact h.ok e he⟩
theorem Good.del {es : List Ent} (h : Good es) (k : List UInt8) : Good (delK k es) := ⟨h.rise.del k, fun e he => h.ok e (mem_del.1 he).1⟩
theorem Good.told {es : List Ent} (h : Good es) (p : List UInt8) : Good (toldL p es) := by
  unfold toldL
  split
  · rename_i what n rest
    split
    · rename_i h1
      split
      · rename_i h2
        exact h.put ⟨by simp; omega, by simp; omega, h2.2⟩
      · split
        · exact h.del _
        · exact h
    · exact h
  · exact h
theorem Good.step {es : List Ent} (h : Good es) (x : Nat × R4) : Good (recStep es x) := by
  unfold recStep; split
  · exact h.told _
  · exact h
theorem good_entL (l : List (Nat × R4)) : Good (entL l) := by
  have : ∀ (l : List (Nat × R4)) (es : List Ent), Good es → Good (l.foldl recStep es) := by
    intro l; induction l with
    | nil => exact fun _ h => h
    | cons x r ih => exact fun es h => ih _ (h.step x)
  exact this l _ Good.nil

theorem told_wt (p : List UInt8) (es : List Ent) : wtL (toldL p es) ≤ wtL es + sizeN p.length := by
  unfold toldL
  split
  · rename_i what n rest
    split
    · rename_i h1
      split
      · rw [wtL_put]
        have := wtL_del_le (rest.take n.toNat) es
        have e : wE (rest.take n.toNat, rest.drop n.toNat) = sizeN (what :: n :: rest).length := by unfold wE; congr 1; simp; omega
        omega
      · split
        · have := wtL_del_le (rest.take n.toNat) es; omega
        · omega
    · omega
  · omega
theorem told_length (p : List UInt8) (es : List Ent) : (toldL p es).length ≤ es.length + 1 := by
  unfold toldL
  split
  · split
    · split
      · exact put_lengthK _ _ _
      · split
        · exact Nat.le_succ_of_le (del_length _ _)
        · omega
    · omega
  · omega
theorem entL_length (l : List (Nat × R4)) : (entL l).length ≤ l.length := by
  have : ∀ (l : List (Nat × R4)) (es : List Ent), (l.foldl recStep es).length ≤ es.length + l.length := by
    intro l; induction l with
    | nil => exact fun es => Nat.le_refl _
    | cons x r ih =>
      intro es
      rw [List.foldl_cons]
      refine Nat.le_trans (ih _) ?_
      have : (recStep es x).length ≤ es.length + 1 := by
        unfold recStep; split
        · exact told_length _ _
        · omega
      simp only [List.length_cons]; omega
  have h := this l []
  rwa [List.length_nil, Nat.zero_add] at h
end Go.Proofs.YtlnmbfddhdjioaaGreat
