/-
  FlashOrder: what the walk needs: programs commute.
-/
import Derived.Test.YtpcgckppdnlccaaLawClears
namespace Go.Proofs.Ytpcgckppdnlccaa
open Go.RowKit Go.Deep

theorem clears_255 (c x : UInt8) : clears c 255 x = c &&& x := by
  unfold clears
  apply UInt8.eq_of_toBitVec_eq
  simp only [UInt8.toBitVec_and, UInt8.toBitVec_not]
  ext i hi
  rw [BitVec.getElem_and, BitVec.getElem_not, BitVec.getElem_and, BitVec.getElem_not, BitVec.getElem_and, all255 ⟨i, hi⟩]
  cases c.toBitVec[i] <;> cases x.toBitVec[i] <;> rfl

theorem and_all (c : UInt8) : c &&& 255 = c := by
  apply UInt8.eq_of_toBitVec_eq
  simp only [UInt8.toBitVec_and]
  ext i hi
  rw [BitVec.getElem_and, all255 ⟨i, hi⟩, Bool.and_true]

/-- Which bits a Put leaves of the j-th byte. -/
def mAt (p : PutD) (j : Nat) : UInt8 := if p.place ≤ j ∧ j < p.place + p.bytes.length then p.bytes.getD (j - p.place) 0 else 255
def mAll (ps : List PutD) (j : Nat) : UInt8 := ps.foldr (fun p m => mAt p j &&& m) 255

theorem put_get (s : FS) (p : PutD) (j : Nat) : (s.put p.place p.bytes).bs[j]? = (s.bs[j]?).map (· &&& mAt p j) := by
  show (span _ _ _ _)[j]? = _
  simp only [span, List.getElem?_mapIdx]
  congr 1
  funext c
  unfold mAt
  split
  · exact clears_255 _ _
  · exact (and_all c).symm

theorem puts_get (ps : List PutD) (s : FS) (j : Nat) : (puts ps s).bs[j]? = (s.bs[j]?).map (· &&& mAll ps j) := by
  induction ps generalizing s with
  | nil =>
    show s.bs[j]? = _
    cases s.bs[j]? with
    | none => rfl
    | some c => simp only [Option.map_some]; exact congrArg some (and_all c).symm
  | cons p ps ih =>
    show (puts ps (s.put p.place p.bytes)).bs[j]? = _
    rw [ih, put_get, Option.map_map]
    congr 1
    funext c
    show (c &&& mAt p j) &&& mAll ps j = c &&& (mAt p j &&& mAll ps j)
    exact UInt8.and_assoc _ _ _

theorem mAll_mem (ps : List PutD) (j : Nat) : ∀ p ∈ ps, mAt p j &&& mAll ps j = mAll ps j := by
  induction ps with
  | nil => intro p hp; simp at hp
  | cons q ps ih =>
    intro p hp
    show mAt p j &&& (mAt q j &&& mAll ps j) = mAt q j &&& mAll ps j
    rcases List.mem_cons.1 hp with rfl | h
    · rw [← UInt8.and_assoc, UInt8.and_self]
    · rw [← UInt8.and_assoc, UInt8.and_comm (mAt p j), UInt8.and_assoc, ih p h]

theorem mAll_sub (ps qs : List PutD) (j : Nat) (h : ∀ p ∈ ps, p ∈ qs) : mAll ps j &&& mAll qs j = mAll qs j := by
  induction ps with
  | nil => show 255 &&& mAll qs j = _; rw [UInt8.and_comm, and_all]
  | cons p ps ih =>
    show (mAt p j &&& mAll ps j) &&& mAll qs j = _
    rw [UInt8.and_assoc, ih (fun q hq => h q (List.mem_cons_of_mem _ hq)), mAll_mem qs j p (h p List.mem_cons_self)]

theorem mAll_same (ps qs : List PutD) (j : Nat) (h1 : ∀ p ∈ ps, p ∈ qs) (h2 : ∀ p ∈ qs, p ∈ ps) : mAll ps j = mAll qs j := by
  rw [← mAll_sub qs ps j h2, UInt8.and_comm, mAll_sub ps qs j h1]

theorem puts_same (ps qs : List PutD) (s : FS) (h1 : ∀ p ∈ ps, p ∈ qs) (h2 : ∀ p ∈ qs, p ∈ ps) : (puts ps s).bs = (puts qs s).bs := by
  refine List.ext_getElem? fun j => ?_
  rw [puts_get, puts_get, mAll_same ps qs j h1 h2]

/-- The Puts of a list, from the last one on, again and again. -/
def noPut : PutD := ⟨0, .slice none 0 0, [], 0⟩
def backAt (l : List PutD) (t : Nat) : PutD := l.getD (l.length - 1 - t % l.length) noPut
def backs (l : List PutD) (i : Nat) : List PutD := (List.range i).map (backAt l)

theorem backs_succ (l : List PutD) (i : Nat) : backs l (i + 1) = backs l i ++ [backAt l i] := by
  unfold backs; rw [List.range_succ, List.map_append]; rfl
theorem backs_length (l : List PutD) (i : Nat) : (backs l i).length = i := by unfold backs; simp
theorem backs_get (l : List PutD) (i k : Nat) (h : k < i) : (backs l i)[k]? = some (backAt l k) := by
  unfold backs; simp [h]
theorem backAt_mem (l : List PutD) (t : Nat) (h : 0 < l.length) : backAt l t ∈ l := by
  unfold backAt
  rw [List.getD_eq_getElem?_getD, List.getElem?_eq_getElem (by omega)]
  exact List.getElem_mem _
theorem backs_all (l : List PutD) : (puts (backs l (2 * l.length)) (FS.new 8)).bs = (puts l (FS.new 8)).bs := by
  by_cases h : 0 < l.length
  · refine puts_same _ _ _ (fun p hp => ?_) (fun p hp => ?_)
    · unfold backs at hp
      obtain ⟨t, _, rfl⟩ := List.mem_map.1 hp
      exact backAt_mem l t h
    · obtain ⟨i, hi, rfl⟩ := List.getElem_of_mem hp
      refine List.mem_map.2 ⟨l.length - 1 - i, by simp; omega, ?_⟩
      unfold backAt
      rw [Nat.mod_eq_of_lt (by omega), List.getD_eq_getElem?_getD, List.getElem?_eq_getElem (by omega)]
      simp only [Option.getD_some]
      congr 1
      omega
  · have : l = [] := List.eq_nil_of_length_eq_zero (by omega)
    subst this
    rfl

/-- The cells of Puts, one behind the other. -/
def putCells (ps : List PutD) : List Value := ps.flatMap fun p => [.int .u16 p.word, p.v]
theorem putCells_length (ps : List PutD) : (putCells ps).length = ps.length * 2 := by
  induction ps with
  | nil => rfl
  | cons p ps ih => unfold putCells at *; rw [List.flatMap_cons, List.length_append, ih]; simp; omega
theorem putCells_snoc (ps : List PutD) (p : PutD) : putCells (ps ++ [p]) = putCells ps ++ [.int .u16 p.word, p.v] := by
  unfold putCells; rw [List.flatMap_append]; simp
theorem putCells_at (ps : List PutD) (i : Nat) (p : PutD) (h : ps[i]? = some p) : (putCells ps)[i * 2]? = some (.int .u16 p.word) ∧ (putCells ps)[i * 2 + 1]? = some p.v := by
  induction ps generalizing i with
  | nil => simp at h
  | cons q ps ih =>
    have e : putCells (q :: ps) = .int .u16 q.word :: q.v :: putCells ps := rfl
    rw [e]
    cases i with
    | zero => simp at h; subst h; exact ⟨rfl, rfl⟩
    | succ i =>
      have := ih i (by simpa using h)
      rw [show (i + 1) * 2 = i * 2 + 1 + 1 by omega]
      simpa using this
end Go.Proofs.Ytpcgckppdnlccaa
