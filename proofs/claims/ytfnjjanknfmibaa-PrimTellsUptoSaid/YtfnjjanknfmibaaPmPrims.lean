/-
  The primitives: the array that the program makes, by a chain of literals.
-/
import Derived.Test.YtfnjjanknfmibaaPmTab
import Derived.Test.YtfnjjanknfmibaaImStr
import Derived.Great.BuildSlice
import Derived.Great.Walk
namespace Go.Proofs.Ytfnjjanknfmibaa
open Go.RowKit Go.Deep Go.Great
set_option linter.unusedVariables false

def Pm.cells (p : Pm) : List Value := [.int .u32 (p.num : Int), str p.name, .int .i64 (p.takes : Int), .int .i64 (p.gives : Int), .int .i64 (p.ops : Int), .bool p.text, .bool p.jump]
def pmv (p : Pm) : Value := .agg p.cells.toArray
def cellsP (l : List Pm) : List Value := l.flatMap Pm.cells
def tabV : Value := .agg (cellsP tabL).toArray

/-- Literals of one type, one behind the other, each into a slot of its own. -/
inductive Builds (P : Program) (t : TypeId) : List Oper → List (Nat × Array Value) → Prop
  | nil : Builds P t [] []
  | cons {o : Oper} {k : Nat} {cells : Array Value} {parts : Array (Nat × Operand)} {l : List Oper} {vs : List (Nat × Array Value)} : o.guard = none → o.op = .build t parts → o.dst = some k →
      (∀ a : Act, P.built t (parts.map fun (i, x) => (i, a.eval x)).toList = some cells) → Builds P t l vs → Builds P t (o :: l) ((k, cells) :: vs)

def putAll (vs : List (Nat × Array Value)) (a : Act) : Act := vs.foldl (fun a x => a.put (some x.1) (.agg x.2)) a

theorem wpList_builds {P : Program} {ops : Array Oper} {Q : Exit → Act → World → Prop} {t : TypeId} {w : World} {rest : List Oper} : ∀ {l : List Oper} {vs : List (Nat × Array Value)} {a : Act}, Builds P t l vs → wpList P ops Q rest (putAll vs a) w → wpList P ops Q (l ++ rest) a w
  | _, _, a, .nil, h => h
  | _, _, a, .cons hg ho hd hf hl, h => by
    refine wpList_buildTo hg t _ ho _ hd _ (hf a) ?_
    exact wpList_builds hl h

theorem cellsP_get : ∀ (l : List Pm) (k : Nat), (cellsP l)[k]? = (l[k / 7]?).bind fun p => p.cells[k % 7]?
  | [], k => by simp [cellsP]
  | p :: l, k => by
    have ih := cellsP_get l (k - 7)
    show (p.cells ++ cellsP l)[k]? = _
    have hl : p.cells.length = 7 := rfl
    by_cases hk : k < 7
    · rw [List.getElem?_append_left (by rw [hl]; exact hk), show k / 7 = 0 by omega, show k % 7 = k by omega]; rfl
    · rw [List.getElem?_append_right (by rw [hl]; omega), hl, ih, show k / 7 = (k - 7) / 7 + 1 by omega, show (k - 7) % 7 = k % 7 by omega, List.getElem?_cons_succ]

theorem cellsP_length : ∀ l : List Pm, (cellsP l).length = 7 * l.length
  | [] => rfl
  | p :: l => by
    show (p.cells ++ cellsP l).length = _
    rw [List.length_append, cellsP_length l, List.length_cons, show p.cells.length = 7 from rfl]; omega

theorem infoPrim : (Try.prog.info? 27).map (fun i => (i.zero, i.size)) = some (some (pmv ⟨0, [], 0, 0, 0, false, false⟩), 7) := by kernel_rfl
theorem infoTable : ((Try.prog.info? 61).bind (·.zero)).map (·.cells.size) = some 791 := by kernel_rfl

def primRegion : Code → List Oper
  | .seq _ (.seq (.region _ ops _) _) => ops.toList
  | _ => []
noncomputable def primOps : List Oper := primRegion (Try.f32.body.getD .skip)

def constOf : Operand → Option Value
  | .const v => some v
  | _ => none

def builtOf (P : Program) (t : TypeId) (o : Oper) : Option (Nat × Array Value) :=
  match o.guard, o.dst, o.op with
  | none, some k, .build t' parts =>
    if t' = t then
      match parts.toList.mapM (fun x => (constOf x.2).map (x.1, ·)) with
      | some l => (P.built t l).map (k, ·)
      | none => none
    else none
  | _, _, _ => none

theorem parts_const (a : Act) : ∀ (parts : List (Nat × Operand)) (l : List (Nat × Value)), parts.mapM (fun x => (constOf x.2).map (x.1, ·)) = some l → parts.map (fun x => (x.1, a.eval x.2)) = l
  | [], l, h => by simp at h; subst h; rfl
  | (i, x) :: parts, l, h => by
    rw [List.mapM_cons] at h
    cases hx : constOf x with
    | none => simp [hx] at h
    | some v =>
      cases hr : parts.mapM (fun x => (constOf x.2).map (x.1, ·)) with
      | none => simp [hx, hr] at h
      | some r =>
        simp [hx, hr] at h
        subst h
        rw [List.map_cons, parts_const a parts r hr]
        cases x with
        | const v' => simp [constOf] at hx; subst hx; rfl
        | _ => simp [constOf] at hx

theorem builds_of {P : Program} {t : TypeId} : ∀ {l : List Oper} {vs : List (Nat × Array Value)}, l.mapM (builtOf P t) = some vs → Builds P t l vs
  | [], vs, h => by simp at h; subst h; exact .nil
  | o :: l, vs, h => by
    simp only [List.mapM_cons, Option.bind_eq_bind, Option.pure_def] at h
    cases ho : builtOf P t o with
    | none => simp [ho] at h
    | some kc =>
      cases hr : l.mapM (builtOf P t) with
      | none => simp [ho, hr] at h
      | some r =>
        simp [ho, hr] at h
        subst h
        obtain ⟨k, c⟩ := kc
        unfold builtOf at ho
        split at ho
        · rename_i k' t' parts hg hd hop
          split at ho
          · rename_i ht
            subst ht
            split at ho
            · rename_i l' hl'
              cases hb : P.built t' l' with
              | none => simp [hb] at ho
              | some c' =>
                simp [hb] at ho
                obtain ⟨rfl, rfl⟩ := ho
                refine .cons hg hop hd (fun a => ?_) (builds_of hr)
                rw [Array.toList_map]
                have := parts_const a _ _ hl'
                rw [show parts.toList.map (fun (x : Nat × Operand) => match x with | (i, x) => (i, a.eval x)) = l' from this]
                exact hb
            · cases ho
          · cases ho
        · cases ho

def tabVs : List (Nat × Array Value) := (tabL.zipIdx 1).map fun x => (x.2, x.1.cells.toArray)

set_option maxRecDepth 1000000 in
theorem prim_builds : Builds Try.prog 27 (primOps.take 113) tabVs := builds_of (by kernel_rfl)

theorem zeroTable : ∃ zs : Array Value, zs.size = 791 ∧ ∀ w, (zeroValue 61).run Try.prog w = .ok (.agg zs) w := by
  have h := infoTable
  cases hi : Try.prog.info? 61 with
  | none => simp [hi] at h
  | some i =>
    cases hz : i.zero with
    | none => simp [hi, hz] at h
    | some z =>
      simp only [hi, hz, Option.bind_some, Option.map_some, Option.some.injEq] at h
      cases z with
      | agg zs => exact ⟨zs, h, fun w => by simp [zeroValue, typeInfo, hi, hz]⟩
      | _ => simp [Value.cells] at h

theorem tab_built : Try.prog.built 61 (((tabL.map pmv).zipIdx 0).map fun x => (x.2, x.1)) = some (cellsP tabL).toArray := by
  have h := infoTable
  have hu : Try.prog.underlying 61 = some (.array 113 27) := by kernel_rfl
  cases hi : Try.prog.info? 61 with
  | none => simp [hi] at h
  | some i =>
    cases hz : i.zero with
    | none => simp [hi, hz] at h
    | some z =>
      simp only [hi, hz, Option.bind_some, Option.map_some, Option.some.injEq] at h
      have h2 := infoPrim
      cases hp : Try.prog.info? 27 with
      | none => simp [hp] at h2
      | some ip =>
        simp only [hp, Option.map_some, Option.some.injEq, Prod.mk.injEq] at h2
        obtain ⟨r, hr, hs, hk⟩ := fill_dense (s := 7) (by decide) (tabL.map pmv) 0 z.cells (fun v hv => by
          obtain ⟨p, _, rfl⟩ := List.mem_map.1 hv; rfl) (by rw [h, List.length_map]; decide)
        unfold Program.built
        simp only [hi, hu, hz, hp, h2.2]
        rw [hr]
        refine congrArg some ?_
        apply Array.ext_getElem?
        intro k
        rw [hk k, List.length_map, show tabL.length = 113 from rfl]
        by_cases hlt : k < 791
        · rw [if_pos (by omega)]
          rw [List.getElem?_toArray, cellsP_get, Nat.sub_zero, List.getElem?_map]
          cases tabL[k / 7]? with
          | none => rfl
          | some p => simp [pmv, Value.cells]
        · rw [if_neg (by omega)]
          rw [Array.getElem?_eq_none (by omega), List.getElem?_toArray, List.getElem?_eq_none (by rw [cellsP_length, show tabL.length = 113 from rfl]; omega)]

theorem row_one (p : Pm) : ∀ u ∈ p.cells, u.oneCell' = true := by
  intro u hu
  simp only [Pm.cells, List.mem_cons, List.not_mem_nil, or_false] at hu
  rcases hu with rfl | rfl | rfl | rfl | rfl | rfl | rfl <;> rfl

theorem cellsP_one (l : List Pm) : ∀ u ∈ cellsP l, u.oneCell' = true := by
  intro u hu
  obtain ⟨p, _, hp⟩ := List.mem_flatMap.1 hu
  exact row_one p u hp

/-- A block that holds the table. -/
theorem run_loadTab {w : World} {b : Nat} (h : ∀ k v, (cellsP tabL)[k]? = some v → w.cell? ⟨b, k, none⟩ = some v) : (loadVar 61 ⟨b, 0, none⟩).run Try.prog w = .ok tabV w := by
  have hl := run_loadCells_list (P := Try.prog) w ⟨b, 0, none⟩ (cellsP tabL) (fun j v hv => by rw [Addr.add_off, Nat.zero_add]; exact h j v hv)
  rw [cellsP_length, show 7 * tabL.length = 791 from rfl] at hl
  have hs : (Try.prog.info? 61).map (·.size) = some 791 := by kernel_rfl
  have ha : (isAgg 61).run Try.prog w = .ok true w := by
    simp [isAgg, run_underlying (show Try.prog.underlying 61 = some (.array 113 27) by kernel_rfl)]
  cases hi : Try.prog.info? 61 with
  | none => simp [hi] at hs
  | some i =>
    simp only [hi, Option.map_some, Option.some.injEq] at hs
    simp [loadVar, ha, sizeOf, typeInfo, hi, hs, hl, tabV]

set_option maxRecDepth 1000000 in
set_option maxHeartbeats 4000000 in
theorem prims_any (w : World) : Calls Try.prog 32 #[] w fun e w' => e = .returned tabV ∧ Keeps [] w w' := by
  obtain ⟨zs, hzs, hz⟩ := zeroTable
  go_enter Try.func32, Try.ntmps32
  refine wp_seq ?_
  refine wp_region_list ?_
  refine wpList_runTo rfl (some 0) rfl (.pointer (some ⟨w.heap.size, 0, none⟩)) (w.alloc (.cells zs 61)) (by simp [execOp, hz, go_sem]) ?_
  refine wpList_nil ?_
  show Code.wp _ _ _ _ _
  refine wp_seq ?_
  refine wp_region_list ?_
  generalize hV : w.alloc (.cells zs 61) = V
  refine wpList_builds (P := Try.prog) (t := 27) (l := primOps.take 113) (rest := primOps.drop 113) prim_builds ?_
  refine wpList_buildTo rfl 61 _ rfl (some 114) rfl (cellsP tabL).toArray ?_ ?_
  · refine Eq.trans ?_ tab_built
    congr 1
    kernel_rfl
  have hk : V.heap[w.heap.size]? = some (.cells zs 61) := by rw [← hV]; exact heap_alloc_new w _
  have hkV : Keeps [] w V := by rw [← hV]; exact Keeps.alloc [] w _
  refine wpList_store_rowTo rfl 61 _ _ rfl rfl w.heap.size (cellsP tabL).toArray (by kernel_rfl) (by kernel_rfl) 61 zs hk (by kernel_rfl) (by rw [hzs]; kernel_rfl) (by
    rw [Array.all_eq_true']; intro x hx; exact cellsP_one _ x (by simpa using hx)) ?_
  refine wpList_nil ?_
  show Code.wp _ _ _ _ _
  refine wp_ret ?_
  have hw : Whole V w.heap.size 61 zs.toList := by unfold Whole; rw [hk]
  have hw2 := hw.setRow (cellsP tabL)
  generalize hA : (putAll tabVs _).put _ _ = A
  have hA0 : A.tmps.getD 0 undef = .pointer (some ⟨w.heap.size, 0, none⟩) := by rw [← hA]; kernel_rfl
  have hA1 : A.defers = [] := by rw [← hA]; kernel_rfl
  clear hA
  refine bodyPost_ret (v := tabV) ?_ hA1 ⟨rfl, hkV.then (Keeps.setRow (S := [w.heap.size]) V (by simp) _) (fun x hx => .inr (by simp at hx; omega))⟩
  have hl := run_loadTab (w := V.setRow w.heap.size (cellsP tabL).toArray) (b := w.heap.size) (fun k v h => by
    rw [cell_of_row _ _ _ _ _ _ hw2]; simpa using h)
  unfold results
  rw [show Try.f32.results = #[.cell 0 61] from Try.results32]
  clear hw hw2 hkV hk hz hzs hV
  generalize V.setRow w.heap.size (cellsP tabL).toArray = V2 at hl ⊢
  generalize tabV = tv at hl ⊢
  generalize A.tmps = T at hA0 ⊢
  simp only [Array.getD_eq_getD_getElem?] at hA0
  simp [hA0, asAddr, hl]
end Go.Proofs.Ytfnjjanknfmibaa
