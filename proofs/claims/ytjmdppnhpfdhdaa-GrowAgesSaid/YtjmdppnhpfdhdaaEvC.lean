/-
  Relative states, part C: the operations that compute on values with addresses, and equality of arrays and structs.
-/
import Derived.Test.YtjmdppnhpfdhdaaEvB
import Derived.ChangeKeysEq
namespace Go.Ev
section
variable {P : Program} {o : Oper} {E : Operand → Option Value} {v : Value} {ρ : Ren} {e : Operand → Value}

/-! ### Equality -/
/-- Is a variable of the type a row of cells? -/
def rowD : TypeDesc → Bool
  | .struct _ | .array _ _ => true
  | _ => false
def isRow (P : Program) (t : TypeId) : Bool :=
  match P.underlying t with
  | some d => rowD d
  | none => false
theorem isRow_eq {t : TypeId} {d : TypeDesc} (h : P.underlying t = some d) : isRow P t = rowD d := by unfold isRow; rw [h]
/-- A part of a row of cells, as a value of type t. -/
def cellsVal (P : Program) (t : TypeId) (cs : List Value) : Option Value :=
  if isRow P t then some (.agg cs.toArray) else match cs with | [c] => some c | _ => none

def eqItems (P : Program) (f : TypeId → List Value → List Value → Option Bool) (e : TypeId) (xs ys : List Value) : List Nat → Option Bool
  | [] => some true
  | i :: is =>
    match f e ((xs.drop (i * P.cellsOf e)).take (P.cellsOf e)) ((ys.drop (i * P.cellsOf e)).take (P.cellsOf e)), eqItems P f e xs ys is with
    | some r, some r' => some (r && r')
    | _, _ => none
def eqFields (P : Program) (f : TypeId → List Value → List Value → Option Bool) (xs ys : List Value) : List Field → Option Bool
  | [] => some true
  | g :: fs =>
    if g.name ≠ "_" then
      match f g.type ((xs.drop g.offset).take (P.cellsOf g.type)) ((ys.drop g.offset).take (P.cellsOf g.type)), eqFields P f xs ys fs with
      | some r, some r' => some (r && r')
      | _, _ => none
    else eqFields P f xs ys fs
def eqCells (P : Program) : Nat → TypeId → List Value → List Value → Option Bool
  | 0, _, _, _ => none
  | d + 1, t, xs, ys =>
    match P.underlying t with
    | some (.int _) => match xs, ys with | [.int k a], [.int k' b] => if k = k' then some (a == b) else none | _, _ => none
    | some .bool => match xs, ys with | [.bool a], [.bool b] => some (a == b) | _, _ => none
    | some .string => match xs, ys with | [.string a], [.string b] => some (a.toList == b.toList) | _, _ => none
    | some (.array n e) => if (P.info? e).isSome then eqItems P (eqCells P d) e xs ys (List.range n) else none
    | some (.struct fs) => if P.stoodInHeld t then none else eqFields P (eqCells P d) xs ys fs.toList
    | _ => none

theorem run_isAgg {t : TypeId} {d : TypeDesc} (hd : P.underlying t = some d) (w : World) : (isAgg t).run P w = .ok (isRow P t) w := by
  unfold isAgg
  rw [Sem.run_bind, run_underlying hd, isRow_eq hd]
  cases d <;> rfl

theorem run_part_cells {t : TypeId} {d : TypeDesc} (hd : P.underlying t = some d) {cs : Array Value} {off : Nat} {v : Value} (hv : cellsVal P t ((cs.toList.drop off).take (P.cellsOf t)) = some v) (w : World) :
    (part t cs off).run P w = .ok v w := by
  obtain ⟨i, hi⟩ := info_of_underlying hd
  have hx : (cs.extract off (off + P.cellsOf t)) = ((cs.toList.drop off).take (P.cellsOf t)).toArray := by
    apply Array.toList_inj.1
    rw [Array.toList_extract]
    simp [List.extract]
  have hone : ∀ c, (cs.toList.drop off).take (P.cellsOf t) = [c] → cs[off]? = some c := by
    intro c hc
    have h0 : ((cs.toList.drop off).take (P.cellsOf t))[0]? = some c := by rw [hc]; rfl
    rw [List.getElem?_take] at h0
    split at h0
    · simpa using h0
    · cases h0
  unfold cellsVal at hv
  unfold part
  rw [Sem.run_bind, run_isAgg hd]
  simp only [Result.andThen_ok]
  split at hv
  · rename_i h
    cases hv
    simp [h, run_sizeOf w hi, hx]
  · rename_i h
    split at hv
    · rename_i c hc
      cases hv
      simp [h, hone _ hc]
    · cases hv

/-- A value in the form of its type. -/
def formed (P : Program) (t : TypeId) (v : Value) : Prop := cellsVal P t v.cells.toList = some v

theorem cellsVal_formed {t : TypeId} {cs : List Value} {v : Value} (h : cellsVal P t cs = some v) (h1 : ∀ c ∈ cs, flat1 c = true) : formed P t v ∧ flat2 v = true ∧ v.cells.toList = cs := by
  unfold formed
  unfold cellsVal at *
  split at h
  · rename_i hr; cases h; exact ⟨by rw [if_pos hr]; rfl, List.all_eq_true.2 h1, rfl⟩
  · rename_i hr
    split at h
    · cases h
      have h0 := h1 _ (List.mem_singleton.2 rfl)
      rw [(flat1_cells h0).1]
      refine ⟨by simp [hr], ?_, rfl⟩
      unfold flat2
      split
      · cases h0
      · exact h0
    · cases h

theorem cellsVal_some {t : TypeId} {d : Nat} {xs ys : List Value} {r : Bool} (h : eqCells P d t xs ys = some r) : (∃ x, cellsVal P t xs = some x) ∧ ∃ y, cellsVal P t ys = some y := by
  cases d with
  | zero => simp [eqCells] at h
  | succ d =>
    unfold eqCells at h
    unfold cellsVal
    cases hu : P.underlying t with
    | none => simp [hu] at h
    | some k =>
      rw [isRow_eq hu]
      simp only [hu] at h
      cases k <;> simp only [reduceCtorEq] at h <;> simp only [rowD] <;> first
        | exact ⟨⟨_, rfl⟩, _, rfl⟩
        | (split at h
           · exact ⟨⟨_, rfl⟩, _, rfl⟩
           · cases h)

theorem eqCells_und {t : TypeId} {d : Nat} {xs ys : List Value} {r : Bool} (h : eqCells P d t xs ys = some r) : ∃ k, P.underlying t = some k := by
  cases d with
  | zero => simp [eqCells] at h
  | succ d =>
    unfold eqCells at h
    split at h <;> first | exact ⟨_, by assumption⟩ | cases h

theorem eqCells_sound (d : Nat) : ∀ (D : Nat) (t : TypeId) (x y : Value) (r : Bool) (w : World), d ≤ D → formed P t x → formed P t y → flat2 x = true → flat2 y = true → eqCells P d t x.cells.toList y.cells.toList = some r → (Op.equalIn D t x y).run P w = .ok r w := by
  induction d with
  | zero => intro D t x y r w _ _ _ _ _ h; simp [eqCells] at h
  | succ d ih =>
    intro D t x y r w hD hx hy fx fy h
    obtain ⟨D, rfl⟩ : ∃ D', D = D' + 1 := ⟨D - 1, by omega⟩
    have items : ∀ (e : TypeId) (xs ys : Array Value), (∀ c ∈ xs.toList, flat1 c = true) → (∀ c ∈ ys.toList, flat1 c = true) → ∀ (is : List Nat) (r : Bool), eqItems P (eqCells P d) e xs.toList ys.toList is = some r → (Op.eqItems D e (P.cellsOf e) xs ys is).run P w = .ok r w := by
      intro e xs ys h1 h2 is
      induction is with
      | nil => intro r h; simp only [eqItems, Option.some.injEq] at h; subst h; rfl
      | cons i is ih2 =>
        intro r h
        unfold eqItems at h
        split at h
        · rename_i r1 r2 e1 e2
          cases h
          obtain ⟨⟨a, ha⟩, b, hb⟩ := cellsVal_some e1
          obtain ⟨k, hk⟩ := eqCells_und e1
          obtain ⟨fa, ga, ca⟩ := cellsVal_formed ha fun c hc => h1 c (List.mem_of_mem_drop (List.mem_of_mem_take hc))
          obtain ⟨fb, gb, cb⟩ := cellsVal_formed hb fun c hc => h2 c (List.mem_of_mem_drop (List.mem_of_mem_take hc))
          simp only [Op.eqItems, Sem.run_bind, run_part_cells hk ha w, run_part_cells hk hb w, Result.andThen_ok]
          rw [ih D e a b r1 w (by omega) fa fb ga gb (by rw [ca, cb]; exact e1)]
          cases r1
          · simp
          · simpa using ih2 r2 e2
        · cases h
    have fields : ∀ (xs ys : Array Value), (∀ c ∈ xs.toList, flat1 c = true) → (∀ c ∈ ys.toList, flat1 c = true) → ∀ (fs : List Field) (r : Bool), eqFields P (eqCells P d) xs.toList ys.toList fs = some r → (Op.eqFields D xs ys fs).run P w = .ok r w := by
      intro xs ys h1 h2 fs
      induction fs with
      | nil => intro r h; simp only [eqFields, Option.some.injEq] at h; subst h; rfl
      | cons f fs ih2 =>
        intro r h
        unfold eqFields at h
        unfold Op.eqFields
        split at h
        · rename_i hn
          rw [if_pos hn]
          split at h
          · rename_i r1 r2 e1 e2
            cases h
            obtain ⟨⟨a, ha⟩, b, hb⟩ := cellsVal_some e1
            obtain ⟨k, hk⟩ := eqCells_und e1
            obtain ⟨fa, ga, ca⟩ := cellsVal_formed ha fun c hc => h1 c (List.mem_of_mem_drop (List.mem_of_mem_take hc))
            obtain ⟨fb, gb, cb⟩ := cellsVal_formed hb fun c hc => h2 c (List.mem_of_mem_drop (List.mem_of_mem_take hc))
            simp only [Sem.run_bind, run_part_cells hk ha w, run_part_cells hk hb w, Result.andThen_ok]
            rw [ih D f.type a b r1 w (by omega) fa fb ga gb (by rw [ca, cb]; exact e1)]
            cases r1
            · simp
            · simpa using ih2 r2 e2
          · cases h
        · rename_i hn
          rw [if_neg hn]
          exact ih2 r h
    have aggs : isRow P t = true → ∃ xs ys : Array Value, x = .agg xs ∧ y = .agg ys := by
      intro hrow
      unfold formed cellsVal at hx hy
      rw [if_pos hrow] at hx hy
      exact ⟨_, _, (Option.some.inj hx).symm, (Option.some.inj hy).symm⟩
    have ones : isRow P t = false → ∀ {a b : Value}, x.cells.toList = [a] → y.cells.toList = [b] → x = a ∧ y = b := by
      intro hrow a b ha hb
      unfold formed cellsVal at hx hy
      simp only [hrow, Bool.false_eq_true, if_false, ha, hb, Option.some.injEq] at hx hy
      exact ⟨hx.symm, hy.symm⟩
    unfold eqCells at h
    cases hu : P.underlying t with
    | none => simp [hu] at h
    | some k =>
      have hr0 := isRow_eq hu
      simp only [hu] at h
      cases k <;> simp only [reduceCtorEq] at h
      · split at h
        · rename_i a b e1 e2; cases h
          obtain ⟨rfl, rfl⟩ := ones hr0 e1 e2
          exact run_equalIn_bool' w D t _ _ hu
        · cases h
      · split at h
        · rename_i k1 a k2 b e1 e2
          split at h
          · rename_i hk; subst hk; cases h
            obtain ⟨rfl, rfl⟩ := ones hr0 e1 e2
            exact run_equalIn_int w D t _ _ _ _ hu
          · cases h
        · cases h
      · split at h
        · rename_i a b e1 e2; cases h
          obtain ⟨rfl, rfl⟩ := ones hr0 e1 e2
          exact run_equalIn_string w D t _ _ hu
        · cases h
      · rename_i n el
        obtain ⟨xs, ys, rfl, rfl⟩ := aggs hr0
        split at h
        · rename_i hi
          obtain ⟨i, hi⟩ := Option.isSome_iff_exists.1 hi
          rw [run_equalIn_array w D xs ys hu hi]
          exact items el xs ys (List.all_eq_true.1 fx) (List.all_eq_true.1 fy) _ _ h
        · cases h
      · rename_i fs
        obtain ⟨xs, ys, rfl, rfl⟩ := aggs hr0
        split at h
        · cases h
        · rename_i hst
          have hf : P.fieldsOf t = fs := by unfold Program.fieldsOf; rw [hu]
          rw [run_equalIn_struct w D t xs ys (by rw [hf]; exact hu) (by simpa using hst), hf]
          exact fields xs ys (List.all_eq_true.1 fx) (List.all_eq_true.1 fy) _ _ h

/-- '==' and '!=' of two values without addresses. -/
def eqAgg (P : Program) (op : BinOp) (t : TypeId) (x y : Value) : Option (Bool × Value) :=
  match x, y with
  | .agg xs, .agg ys =>
    if isRow P t && xs.toList.all flat1 && ys.toList.all flat1 && !P.eqGuardType P.depth t then
      match op, eqCells P 10 t xs.toList ys.toList with
      | .eql, some r => some (true, .bool r)
      | .neq, some r => some (true, .bool (!r))
      | _, _ => none
    else none
  | _, _ => none

theorem eqAgg_sound {op : BinOp} {t : TypeId} {px py : Operand} {x y : Value} (h : eqAgg P op t x y = some (true, v)) :
    flat x = true ∧ flat y = true ∧ flat v = true ∧ ∀ w, (do eqGuard op t px py x y; binOp op t x y).run P w = .ok v w := by
  unfold eqAgg at h
  split at h
  · rename_i xs ys
    split at h
    · rename_i hc
      simp only [Bool.and_eq_true, Bool.not_eq_true'] at hc
      obtain ⟨⟨⟨hr, fx⟩, fy⟩, hg⟩ := hc
      have hfx : formed P t (.agg xs) := by unfold formed cellsVal; rw [if_pos hr]; rfl
      have hfy : formed P t (.agg ys) := by unfold formed cellsVal; rw [if_pos hr]; rfl
      split at h
      · rename_i r he
        cases h
        refine ⟨fx, fy, rfl, fun w => ?_⟩
        rw [Sem.run_bind, run_eqGuard_agg w .eql t px py xs ys hg, Result.andThen_ok, run_eql_struct, eqCells_sound 10 10000 t _ _ r w (by omega) hfx hfy fx fy he]
        rfl
      · rename_i r he
        cases h
        refine ⟨fx, fy, rfl, fun w => ?_⟩
        rw [Sem.run_bind, run_eqGuard_agg w .neq t px py xs ys hg, Result.andThen_ok, run_neq_struct, eqCells_sound 10 10000 t _ _ r w (by omega) hfx hfy fx fy he]
        rfl
      · cases h
    · cases h
  · cases h
end
end Go.Ev
