/-
  Relative states, part Gb: regions in whatever order where what is written is told apart block by block.
-/
import Derived.Test.YtjmdppnhpfdhdaaEvG
namespace Go.Ev
section
variable {P : Program} {ops : Array Oper}

/-- An operation that writes, and knows where. -/
def WrS (P : Program) (o : Oper) (E : Operand → Option Value) (v : Value) (mem mem' : Mem) : Prop :=
  ∀ (ρ : Ren) (a : Act) (w : World), (∀ x ∈ o.op.operands, ∀ u, E x = some u → VR ρ u (a.eval x)) → MRel ρ mem w →
    ∀ (next : Act → World → Prop) (Q : Exit → Act → World → Prop),
      (∀ u w', VR ρ v u → MRel ρ mem' w' → Mv ρ mem w ρ mem' w' → next (a.put o.dst u) w') → o.wp P a w next Q

/-- Do two operations of these codes wait for one another? -/
def clash (a b : Nat) : Bool :=
  match decide (a = 0) || decide (b = 0) with
  | true => false
  | false => match decide (a = 2) || decide (b = 2) with
    | true => true
    | false => match decide (a = 1) with
      | true => decide (b % 2 = 0)
      | false => match decide (b = 1) with
        | true => decide (a % 2 = 0)
        | false => decide ((a - 3) / 2 = (b - 3) / 2) && (decide (a % 2 = 0) || decide (b % 2 = 0))
theorem clash_write_read1 (k : Nat) : clash (2 * k + 4) 1 = true ∧ clash 1 (2 * k + 4) = true := by
  constructor <;> unfold clash <;> simp <;> omega
theorem clash_write_read (k : Nat) : clash (2 * k + 4) (2 * k + 3) = true ∧ clash (2 * k + 3) (2 * k + 4) = true := by
  constructor <;> unfold clash <;> simp <;> omega
theorem clash_writes (k : Nat) : clash (2 * k + 4) (2 * k + 4) = true := by
  unfold clash
  simp

def MemG (P : Program) (mem : Mem) (E : Operand → Option Value) (o : Oper) (v : Value) (mem' : Mem) (c : Nat) : Prop :=
  (c = 0 ∧ mem' = mem ∧ NonW P o E v [] none) ∨ (c = 1 ∧ mem' = mem ∧ NonW P o E v mem none) ∨ (c = 1 ∧ ∃ B, mem' = mem ++ [B] ∧ NonW P o E v mem' (some mem.length)) ∨
  (∃ k, c = 2 * k + 3 ∧ mem' = mem ∧ k < mem.length ∧ ∀ M : Mem, M[k]? = mem[k]? → NonW P o E v M none) ∨
  (∃ k B, c = 2 * k + 4 ∧ mem' = mem.set k B ∧ k < mem.length ∧ ∀ M : Mem, M[k]? = mem[k]? → WrS P o E v M (M.set k B))
def StepG (P : Program) (ops : Array Oper) (o : Oper) (S S' : St) (c : Nat) : Prop :=
  guardOk ops S.tmps o = true ∧ ((wantedL ops S.tmps o = false ∧ S'.tmps = putL S.tmps o.dst undef ∧ S'.mem = S.mem ∧ c = 0) ∨
  (wantedL ops S.tmps o = true ∧ ∃ v, S'.tmps = putL S.tmps o.dst v ∧ MemG P S.mem S.eval o v S'.mem c))
def TraceG (P : Program) (ops : Array Oper) (T : Nat → St) (cls : Nat → Nat) : Prop :=
  ∀ i, i < ops.size → ∃ o, ops[i]? = some o ∧ StepG P ops o (T i) (T (i + 1)) (cls i)
structure FitsG (ops : Array Oper) (cls : Nat → Nat) (bef : Nat → Nat → Bool) : Prop where
  edge : ∀ (i : Nat) o, ops[i]? = some o → ∀ e ∈ o.after, Region.binds .any e = true → e.on < i
  via : ∀ (i j : Nat), bef i j = true → ∃ o, ops[j]? = some o ∧ ∃ e ∈ o.after, Region.binds .any e = true ∧ (e.on = i ∨ bef i e.on = true)
  tmps : ∀ (i j : Nat) oi oj, i < j → ops[i]? = some oi → ops[j]? = some oj → bef i j = true ∨ ((∀ d, oi.dst = some d → d ∉ oj.looksAt ops ∧ oj.dst ≠ some d) ∧ ∀ d, oj.dst = some d → d ∉ oi.looksAt ops)
  mems : ∀ (i j : Nat), i < j → j < ops.size → clash (cls i) (cls j) = true → bef i j = true

variable {T : Nat → St} {cls : Nat → Nat} {bef : Nat → Nat → Bool}

theorem traceG_tmps (h : TraceG P ops T cls) {i : Nat} (hi : i < ops.size) : ∃ o v, ops[i]? = some o ∧ (T (i + 1)).tmps = putL (T i).tmps o.dst v := by
  obtain ⟨o, ho, hst⟩ := h i hi
  rcases hst.2 with ⟨_, ht, _⟩ | ⟨_, v, ht, _⟩
  · exact ⟨o, _, ho, ht⟩
  · exact ⟨o, v, ho, ht⟩
theorem traceG_len (h : TraceG P ops T cls) : ∀ i, i ≤ ops.size → (T i).tmps.length = (T 0).tmps.length
  | 0, _ => rfl
  | i + 1, hi => by
    obtain ⟨o, v, ho, ht⟩ := traceG_tmps h (show i < ops.size by omega)
    rw [← traceG_len h i (by omega), ht]
    unfold putL
    split <;> simp
theorem traceG_tmp (h : TraceG P ops T cls) (t i : Nat) : ∀ j, i ≤ j → j ≤ ops.size → (∀ k o, i ≤ k → k < j → ops[k]? = some o → o.dst ≠ some t) → (T j).tmps[t]? = (T i).tmps[t]?
  | 0, hi, _, _ => by rw [Nat.le_zero.1 hi]
  | j + 1, hi, hj, hk => by
    by_cases hij : i = j + 1
    · rw [hij]
    · rw [← traceG_tmp h t i j (by omega) (by omega) (fun k o h1 h2 => hk k o h1 (by omega))]
      obtain ⟨o, v, ho, ht⟩ := traceG_tmps h (show j < ops.size by omega)
      have hne := hk j o (by omega) (by omega) ho
      rw [ht]
      unfold putL
      split
      · rename_i d hd
        rw [List.getElem?_set_ne (fun e => hne (by rw [hd, e]))]
      · rfl
/-- What an operation does to memory. -/
theorem traceG_mem1 (h : TraceG P ops T cls) {i : Nat} (hi : i < ops.size) :
    ((T (i + 1)).mem = (T i).mem ∧ ∀ k, cls i ≠ 2 * k + 4) ∨ (cls i = 1 ∧ ∃ B, (T (i + 1)).mem = (T i).mem ++ [B]) ∨ ∃ k B, cls i = 2 * k + 4 ∧ k < (T i).mem.length ∧ (T (i + 1)).mem = (T i).mem.set k B := by
  obtain ⟨o, ho, hst⟩ := h i hi
  rcases hst.2 with ⟨_, _, hm, hc⟩ | ⟨_, v, _, hs⟩
  · exact .inl ⟨hm, fun k => by omega⟩
  · rcases hs with ⟨hc, hm, _⟩ | ⟨hc, hm, _⟩ | ⟨hc, B, hm, _⟩ | ⟨k, hc, hm, _⟩ | ⟨k, B, hc, hm, hk, _⟩
    · exact .inl ⟨hm, fun k => by omega⟩
    · exact .inl ⟨hm, fun k => by omega⟩
    · exact .inr (.inl ⟨hc, B, hm⟩)
    · exact .inl ⟨hm, fun k => by omega⟩
    · exact .inr (.inr ⟨k, B, hc, hk, hm⟩)
theorem traceG_le (h : TraceG P ops T cls) (i : Nat) : ∀ j, i ≤ j → j ≤ ops.size → (T i).mem.length ≤ (T j).mem.length
  | 0, hi, _ => by rw [Nat.le_zero.1 hi]; exact Nat.le_refl _
  | j + 1, hi, hj => by
    by_cases hij : i = j + 1
    · rw [hij]; exact Nat.le_refl _
    · refine Nat.le_trans (traceG_le h i j (by omega) (by omega)) ?_
      rcases traceG_mem1 h (show j < ops.size by omega) with ⟨hm, _⟩ | ⟨_, B, hm⟩ | ⟨k, B, _, _, hm⟩ <;> rw [hm] <;> simp
/-- A block that nobody writes between stays. -/
theorem traceG_cell (h : TraceG P ops T cls) {k i : Nat} (hk : k < (T i).mem.length) : ∀ j, i ≤ j → j ≤ ops.size → (∀ l, i ≤ l → l < j → cls l ≠ 2 * k + 4) → (T j).mem[k]? = (T i).mem[k]?
  | 0, hi, _, _ => by rw [Nat.le_zero.1 hi]
  | j + 1, hi, hj, hn => by
    by_cases hij : i = j + 1
    · rw [hij]
    · rw [← traceG_cell h hk j (by omega) (by omega) (fun l h1 h2 => hn l h1 (by omega))]
      have hkj : k < (T j).mem.length := Nat.lt_of_lt_of_le hk (traceG_le h i j (by omega) (by omega))
      rcases traceG_mem1 h (show j < ops.size by omega) with ⟨hm, _⟩ | ⟨_, B, hm⟩ | ⟨k', B, hc, _, hm⟩
      · rw [hm]
      · rw [hm, List.getElem?_append_left hkj]
      · rw [hm, List.getElem?_set_ne (fun e => hn j (by omega) (by omega) (by rw [hc, e]))]

/-- The memory with every block that will be made, as it is before anything is written. -/
theorem traceG_first (h : TraceG P ops T cls) : ∀ j, j ≤ ops.size → ∃ M : Mem, M.length = (T j).mem.length ∧
    ∀ k j', j' ≤ j → k < (T j').mem.length → (∀ l, l < j' → cls l ≠ 2 * k + 4) → M[k]? = (T j').mem[k]?
  | 0, _ => ⟨(T 0).mem, rfl, fun k j' hj' _ _ => by rw [Nat.le_zero.1 hj']⟩
  | j + 1, hj => by
    obtain ⟨M, hl, hM⟩ := traceG_first h j (by omega)
    have hj' : j < ops.size := by omega
    rcases traceG_mem1 h hj' with ⟨hm, hc⟩ | ⟨hc, B, hm⟩ | ⟨k0, B, hc, hk0, hm⟩
    · refine ⟨M, by rw [hm]; exact hl, fun k j' h1 h2 h3 => ?_⟩
      rcases Nat.lt_or_ge j' (j + 1) with h4 | h4
      · exact hM k j' (by omega) h2 h3
      · have e : j' = j + 1 := by omega
        subst e
        rw [hm] at h2 ⊢
        exact hM k j (Nat.le_refl _) h2 fun l hl => h3 l (by omega)
    · refine ⟨M ++ [B], by rw [hm]; simp [hl], fun k j' h1 h2 h3 => ?_⟩
      rcases Nat.lt_or_ge j' (j + 1) with h4 | h4
      · have hkM : k < M.length := by rw [hl]; exact Nat.lt_of_lt_of_le h2 (traceG_le h j' j (by omega) (by omega))
        rw [List.getElem?_append_left hkM]
        exact hM k j' (by omega) h2 h3
      · have e : j' = j + 1 := by omega
        subst e
        rw [hm] at h2 ⊢
        rcases Nat.lt_or_ge k (T j).mem.length with h5 | h5
        · rw [List.getElem?_append_left h5, List.getElem?_append_left (by omega)]
          exact hM k j (Nat.le_refl _) h5 fun l hl => h3 l (by omega)
        · simp only [List.length_append, List.length_cons, List.length_nil] at h2
          have e : k = (T j).mem.length := by omega
          subst e
          rw [List.getElem?_append_right (Nat.le_refl _), List.getElem?_append_right (by omega), hl]
    · refine ⟨M, by rw [hm]; simp [hl], fun k j' h1 h2 h3 => ?_⟩
      rcases Nat.lt_or_ge j' (j + 1) with h4 | h4
      · exact hM k j' (by omega) h2 h3
      · have e : j' = j + 1 := by omega
        subst e
        rw [hm, List.getElem?_set_ne (fun e => h3 j (by omega) (by rw [hc, e]))]
        rw [hm, List.length_set] at h2
        exact hM k j (Nat.le_refl _) h2 fun l hl => h3 l (by omega)

/-- Where a region stands when some of its operations have been carried out. -/
structure PartG (ops : Array Oper) (T : Nat → St) (cls : Nat → Nat) (ρ0 : Ren) (w0 : World) (listed : Array Bool) (a : Act) (w : World) (ρ : Ren) (M : Mem) : Prop where
  size : listed.size = ops.size
  down : ∀ (j : Nat) o, ops[j]? = some o → listed.getD j false = true → ∀ e ∈ o.after, Region.binds .any e = true → listed.getD e.on false = true
  total : M.length = (T ops.size).mem.length
  cont : ∀ k j, j ≤ ops.size → k < (T j).mem.length → (∀ l, l < ops.size → cls l = 2 * k + 4 → (l < j ↔ listed.getD l false = true)) → M[k]? = (T j).mem[k]?
  mem : MRel ρ M w
  dom : ∀ k x, ρ k = some x → k < (T 0).mem.length ∨ ∃ j, j < ops.size ∧ listed.getD j false = true ∧ (T j).mem.length ≤ k ∧ k < (T (j + 1)).mem.length
  len : a.tmps.toList.length = (T 0).tmps.length
  slot : ∀ t j, j ≤ ops.size → (∀ i o, ops[i]? = some o → o.dst = some t → (i < j ↔ listed.getD i false = true)) → SR ρ (T j).tmps[t]? a.tmps.toList[t]?
  defers : a.defers = []
  mv : Mv ρ0 (T 0).mem w0 ρ M w

theorem PartG.down_bef {ρ0 ρ : Ren} {w0 w : World} {listed : Array Bool} {a : Act} {M : Mem} (hF : FitsG ops cls bef) (h : PartG ops T cls ρ0 w0 listed a w ρ M) (j : Nat) :
    ∀ i, bef i j = true → (∀ o, ops[j]? = some o → ∀ e ∈ o.after, Region.binds .any e = true → listed.getD e.on false = true) → listed.getD i false = true := by
  induction j using Nat.strongRecOn with
  | _ j ih =>
    intro i hb hall
    obtain ⟨o, ho, e, he, hbind, hor⟩ := hF.via i j hb
    have hl := hall o ho e he hbind
    rcases hor with rfl | hb2
    · exact hl
    · have hlt := hF.edge j o ho e he hbind
      exact ih e.on hlt i hb2 fun o' ho' e' he' hbind' => h.down e.on o' ho' hl e' he' hbind'

set_option maxHeartbeats 1000000 in
theorem PartG.step {ρ0 ρ : Ren} {w0 w : World} {listed : Array Bool} {a : Act} {M : Mem} (hT : TraceG P ops T cls) (hF : FitsG ops cls bef) (hM0 : MRel ρ0 (T 0).mem w0) (h : PartG ops T cls ρ0 w0 listed a w ρ M)
    {i : Nat} (hun : listed.getD i false = false) (hin : i < ops.size) (hpre : ∀ o, ops[i]? = some o → ∀ e ∈ o.after, Region.binds .any e = true → listed.getD e.on false = true)
    {K : Act → World → Prop} {Q : Exit → Act → World → Prop} (hK : ∀ a' w' ρ' M', PartG ops T cls ρ0 w0 (listed.setIfInBounds i true) a' w' ρ' M' → K a' w') : wpOp P ops Q i K a w := by
  obtain ⟨o, ho, hst⟩ := hT i hin
  have hil : i < listed.size := h.size ▸ hin
  have hbef : ∀ j, bef j i = true → listed.getD j false = true := fun j hj => h.down_bef hF i j hj hpre
  have hbeh : ∀ j, bef i j = true → listed.getD j false = false := fun j hj => by
    cases hl : listed.getD j false with
    | false => rfl
    | true =>
      obtain ⟨oj, hoj, _⟩ := hF.via i j hj
      have := h.down_bef hF j i hj fun o' ho' e he hb => h.down j o' ho' hl e he hb
      rw [hun] at this
      cases this
  have hslot : ∀ t, (t ∈ o.looksAt ops ∨ o.dst = some t) → ∀ j oj, ops[j]? = some oj → oj.dst = some t → j ≠ i → (j < i ↔ listed.getD j false = true) := by
    intro t ht j oj hoj hd hne
    rcases Nat.lt_or_gt_of_ne hne with hlt | hgt
    · refine ⟨fun _ => ?_, fun _ => hlt⟩
      rcases hF.tmps j i oj o hlt hoj ho with hb | ⟨h1, _⟩
      · exact hbef j hb
      · rcases ht with ht | ht
        · exact absurd ht (h1 t hd).1
        · exact absurd ht (h1 t hd).2
    · refine ⟨fun hl => absurd hl (by omega), fun hl => ?_⟩
      rcases hF.tmps i j o oj hgt ho hoj with hb | ⟨h1, h2⟩
      · rw [hbeh j hb] at hl; cases hl
      · rcases ht with ht | ht
        · exact absurd ht (h2 t hd)
        · exact absurd hd (h1 t ht).2
  have hsr : ∀ t, t ∈ o.looksAt ops → SR ρ (T i).tmps[t]? a.tmps.toList[t]? := fun t ht => by
    refine h.slot t i (by omega) fun j oj hoj hd => ?_
    by_cases hji : j = i
    · subst hji
      constructor
      · intro hlt; omega
      · intro hl; rw [hun] at hl; cases hl
    · exact hslot t (.inl ht) j oj hoj hd hji
  have hw : Region.wanted o (yielded ops a.tmps) = wantedL ops (T i).tmps o := by
    have hgk := hst.1
    unfold wantedL Region.wanted
    unfold guardOk at hgk
    cases hg : o.guard with
    | none => rfl
    | some gw =>
      obtain ⟨g, want⟩ := gw
      rw [hg] at hgk
      simp only at hgk ⊢
      have : yielded ops a.tmps g = yieldedL ops (T i).tmps g := by
        rw [yielded_eq, yieldedL]
        cases hd : (ops[g]?).bind (·.dst) with
        | none => rfl
        | some t =>
          rw [hd] at hgk
          simp only [Option.bind_some] at hgk ⊢
          rw [← Array.getElem?_toList]
          exact (hsr t (List.mem_append_right _ (by simp [hg, hd]))).boolOf hgk
      rw [this]
  have hH : ∀ x ∈ o.op.operands, ∀ u, (T i).eval x = some u → VR ρ u (a.eval x) := by
    intro x hx u hu
    cases x with
    | tmp t =>
      simp only [St.eval, Option.some.injEq] at hu
      subst hu
      have := hsr t (List.mem_append_left _ (List.mem_filterMap.2 ⟨.tmp t, by simpa using hx, rfl⟩))
      simp only [Act.eval, Array.getD_eq_getD_getElem?, List.getD_eq_getElem?_getD]
      rw [← Array.getElem?_toList]
      unfold SR at this
      split at this
      · rename_i e1 e2; rw [e1, e2]; exact this
      · rename_i e1 e2; rw [e1, e2]; exact VR_undef
      · exact this.elim
    | const c =>
      simp only [St.eval] at hu
      split at hu
      · rename_i hf; cases hu; exact (VR_flat hf).2 rfl
      · cases hu
    | global g => cases hu
    | func f => cases hu; exact (VR_flat rfl).2 rfl
  have hnew : ∀ (ρ' : Ren) (v u : Value), ρ.le ρ' → VR ρ' v u → (T (i + 1)).tmps = putL (T i).tmps o.dst v →
      ∀ t j, j ≤ ops.size → (∀ k ok, ops[k]? = some ok → ok.dst = some t → (k < j ↔ (listed.setIfInBounds i true).getD k false = true)) → SR ρ' (T j).tmps[t]? (a.put o.dst u).tmps.toList[t]? := by
    intro ρ' v u hle hvu ht t j hj hcond
    by_cases hd : o.dst = some t
    · have hij : i < j := (hcond i o ho hd).2 (by rw [getD_set _ _ _ hil]; simp)
      have heq : (T j).tmps[t]? = (T (i + 1)).tmps[t]? := by
        refine traceG_tmp hT t (i + 1) j (by omega) hj fun k ok h1 h2 hok hdk => ?_
        have hl := (hcond k ok hok hdk).1 h2
        rw [getD_set _ _ _ hil, if_neg (by omega)] at hl
        have := (hslot t (.inr hd) k ok hok hdk (by omega)).2 hl
        omega
      rw [heq, ht, hd]
      simp only [putL, Act.put, Array.toList_setIfInBounds, List.getElem?_set, if_true]
      have hlen : (T i).tmps.length = a.tmps.toList.length := (traceG_len hT i (by omega)).trans h.len.symm
      rw [← hlen]
      split
      · exact hvu
      · trivial
    · have h1 : (a.put o.dst u).tmps.toList[t]? = a.tmps.toList[t]? := by
        cases hdd : o.dst with
        | none => rfl
        | some d =>
          simp only [Act.put, Array.toList_setIfInBounds]
          rw [List.getElem?_set_ne (fun e => hd (by rw [hdd, e]))]
      rw [h1]
      refine (h.slot t j hj fun k ok hok hdk => ?_).mono hle
      have hki : i ≠ k := fun e => by
        subst e
        rw [ho] at hok
        cases hok
        exact hd hdk
      rw [hcond k ok hok hdk, getD_set _ _ _ hil, if_neg hki]
  have hlenp : ∀ u, (a.put o.dst u).tmps.toList.length = (T 0).tmps.length := fun u => by rw [← h.len]; cases o.dst <;> simp [Act.put]
  have hdp : ∀ u, (a.put o.dst u).defers = [] := fun u => by cases o.dst <;> exact h.defers
  have hdown : ∀ (j : Nat) oj, ops[j]? = some oj → (listed.setIfInBounds i true).getD j false = true → ∀ e ∈ oj.after, Region.binds .any e = true → (listed.setIfInBounds i true).getD e.on false = true := by
    intro j oj hoj hl e he hb
    rw [getD_set _ _ _ hil] at hl ⊢
    by_cases hij : i = j
    · subst hij; rw [hpre oj hoj e he hb]; simp
    · rw [if_neg hij] at hl; rw [h.down j oj hoj hl e he hb]; simp
  -- the order of those that clash with i
  have hclash : ∀ l, l < ops.size → l ≠ i → clash (cls l) (cls i) = true → clash (cls i) (cls l) = true → (l < i ↔ listed.getD l false = true) := by
    intro l hl hne h1 h2
    rcases Nat.lt_or_gt_of_ne hne with hlt | hgt
    · exact ⟨fun _ => hbef l (hF.mems l i hlt hin h1), fun _ => hlt⟩
    · refine ⟨fun hh => absurd hh (by omega), fun hh => ?_⟩
      rw [hbeh l (hF.mems i l hgt hl h2)] at hh
      cases hh
  have hdomOld : ∀ k, (∃ j, j < ops.size ∧ listed.getD j false = true ∧ (T j).mem.length ≤ k ∧ k < (T (j + 1)).mem.length) →
      ∃ j, j < ops.size ∧ (listed.setIfInBounds i true).getD j false = true ∧ (T j).mem.length ≤ k ∧ k < (T (j + 1)).mem.length := by
    rintro k ⟨j, h1, h2, h3⟩
    exact ⟨j, h1, by rw [getD_set _ _ _ hil, h2]; simp, h3⟩
  -- who writes nothing leaves M as it is
  have stay : ∀ (ρ' : Ren) (v u : Value) (w' : World), (∀ k, cls i ≠ 2 * k + 4) → VR ρ' v u → MRel ρ' M w' → Mv ρ M w ρ' M w' → (T (i + 1)).tmps = putL (T i).tmps o.dst v →
      (∀ k x, ρ' k = some x → ρ k = some x ∨ ((T i).mem.length ≤ k ∧ k < (T (i + 1)).mem.length)) →
      PartG ops T cls ρ0 w0 (listed.setIfInBounds i true) (a.put o.dst u) w' ρ' M := by
    intro ρ' v u w' hc hvu hM hmv ht hdom
    refine ⟨by simp [h.size], hdown, h.total, fun k j hj hk hl => h.cont k j hj hk fun l hls hlc => ?_, hM, fun k x hx => ?_, hlenp u, hnew ρ' v u hmv.sub hvu ht, hdp u, h.mv.trans hM0 hmv⟩
    · rw [hl l hls hlc, getD_set _ _ _ hil, if_neg (fun e => hc k (by rw [e]; exact hlc))]
    · rcases hdom k x hx with h1 | h1
      · exact (h.dom k x h1).imp id (hdomOld k)
      · exact .inr ⟨i, hin, by rw [getD_set _ _ _ hil]; simp, h1⟩
  unfold wpOp
  rw [ho]
  simp only
  rw [hw]
  rcases hst.2 with ⟨hwd, ht, hm, hk⟩ | ⟨hwd, v, ht, hst⟩
  · rw [hwd]
    simp only [Bool.false_eq_true, if_false]
    exact hK _ w ρ M (stay ρ undef undef w (fun k => by omega) VR_undef h.mem (.refl _ _ _) ht fun k x hx => .inl hx)
  · rw [hwd]
    simp only [if_true]
    refine .inl ?_
    rcases hst with ⟨hk, hm, hn⟩ | ⟨hk, hm, hn⟩ | ⟨hk, B, hm, hn⟩ | ⟨k, hk, hm, hkl, hn⟩ | ⟨k, B, hk, hm, hkl, hn⟩
    · refine hn M (by simp) ρ a w hH h.mem (by simp) K Q fun u w' ρ' hu hM hmv hdom => ?_
      exact hK _ w' ρ' M (stay ρ' v u w' (fun k => by omega) hu hM hmv ht fun k x hx => .inl ((hdom k x hx).resolve_right (by simp)))
    · have hpm : ∀ (k : Nat) (B : Blk), (T i).mem[k]? = some B → M[k]? = some B := fun k B hB => by
        rw [h.cont k i (by omega) (List.getElem?_eq_some_iff.1 hB).1 fun l hl hlc => ?_]
        · exact hB
        · exact hclash l hl (fun e => by rw [e] at hlc; omega) (by rw [hlc, hk]; exact (clash_write_read1 k).1) (by rw [hlc, hk]; exact (clash_write_read1 k).2)
      refine hn M hpm ρ a w hH h.mem (by simp) K Q fun u w' ρ' hu hM hmv hdom => ?_
      exact hK _ w' ρ' M (stay ρ' v u w' (fun k => by omega) hu hM hmv ht fun k x hx => .inl ((hdom k x hx).resolve_right (by simp)))
    · have hl1 : (T (i + 1)).mem.length = (T i).mem.length + 1 := by rw [hm]; simp
      have hpm : ∀ (k : Nat) (B : Blk), (T (i + 1)).mem[k]? = some B → M[k]? = some B := fun k B hB => by
        rw [h.cont k (i + 1) (by omega) (List.getElem?_eq_some_iff.1 hB).1 fun l hl hlc => ?_]
        · exact hB
        · have hne : l ≠ i := fun e => by rw [e] at hlc; omega
          have := hclash l hl hne (by rw [hlc, hk]; exact (clash_write_read1 k).1) (by rw [hlc, hk]; exact (clash_write_read1 k).2)
          rw [← this]
          omega
      refine hn M hpm ρ a w hH h.mem (fun k' hk' => ?_) K Q fun u w' ρ' hu hM hmv hdom => ?_
      · cases hk'
        cases hρ : ρ (T i).mem.length with
        | none => rfl
        | some x =>
          exfalso
          rcases h.dom _ x hρ with h3 | ⟨j, h3, h4, h5, h6⟩
          · have := traceG_le hT 0 i (by omega) (by omega)
            omega
          · rcases Nat.lt_trichotomy j i with h8 | h8 | h8
            · have := traceG_le hT (j + 1) i (by omega) (by omega)
              omega
            · subst h8; rw [hun] at h4; cases h4
            · have := traceG_le hT (i + 1) j (by omega) (by omega)
              omega
      · refine hK _ w' ρ' M (stay ρ' v u w' (fun k => by omega) hu hM hmv ht fun k x hx => ?_)
        rcases hdom k x hx with h3 | h3
        · exact .inl h3
        · cases h3
          exact .inr ⟨Nat.le_refl _, by omega⟩
    · have hpm : M[k]? = (T i).mem[k]? := h.cont k i (by omega) hkl fun l hl hlc =>
        hclash l hl (fun e => by rw [e] at hlc; omega) (by rw [hlc, hk]; exact (clash_write_read k).1) (by rw [hlc, hk]; exact (clash_write_read k).2)
      refine hn M hpm M (prefix_self _) ρ a w hH h.mem (by simp) K Q fun u w' ρ' hu hM hmv hdom => ?_
      exact hK _ w' ρ' M (stay ρ' v u w' (fun k => by omega) hu hM hmv ht fun k x hx => .inl ((hdom k x hx).resolve_right (by simp)))
    · have hord : ∀ l, l < ops.size → l ≠ i → cls l = 2 * k + 4 → (l < i ↔ listed.getD l false = true) := fun l hl hne hlc =>
        hclash l hl hne (by rw [hlc, hk]; exact clash_writes k) (by rw [hlc, hk]; exact clash_writes k)
      have hpm : M[k]? = (T i).mem[k]? := h.cont k i (by omega) hkl fun l hl hlc => by
        by_cases hne : l = i
        · subst hne
          constructor
          · intro hlt; omega
          · intro hl; rw [hun] at hl; cases hl
        · exact hord l hl hne hlc
      have hkM : k < M.length := by rw [h.total]; exact Nat.lt_of_lt_of_le hkl (traceG_le hT i ops.size (by omega) (Nat.le_refl _))
      refine hn M hpm ρ a w hH h.mem K Q fun u w' hu hM hmv => ?_
      refine hK _ w' ρ (M.set k B) ⟨by simp [h.size], hdown, by rw [List.length_set]; exact h.total, fun k' j hj hk' hl => ?_, hM, fun k' x hx => (h.dom k' x hx).imp id (hdomOld k'), hlenp u, hnew ρ v u (.refl _) hu ht, hdp u, h.mv.trans hM0 hmv⟩
      by_cases hkk : k' = k
      · subst hkk
        have hij : i < j := (hl i hin hk).2 (by rw [getD_set _ _ _ hil]; simp)
        have hl1 : (T (i + 1)).mem.length = (T i).mem.length := by rw [hm]; simp
        rw [List.getElem?_set_self hkM, traceG_cell hT (i := i + 1) (by omega) j (by omega) hj fun l h1 h2 hlc => ?_]
        · rw [hm, List.getElem?_set_self hkl]
        · have h3 := (hl l (by omega) hlc).1 h2
          rw [getD_set _ _ _ hil, if_neg (by omega)] at h3
          have := (hord l (by omega) (by omega) hlc).2 h3
          omega
      · rw [List.getElem?_set_ne (Ne.symm hkk)]
        refine h.cont k' j hj hk' fun l hls hlc => ?_
        rw [hl l hls hlc, getD_set _ _ _ hil, if_neg (fun e => hkk (by rw [← e] at hlc; omega))]

theorem PartG.any {ρ0 : Ren} {w0 : World} (hT : TraceG P ops T cls) (hF : FitsG ops cls bef) (hM0 : MRel ρ0 (T 0).mem w0) {Q : Exit → Act → World → Prop}
    (hQ : ∀ a w ρ, ARel ρ (T ops.size) a w → Mv ρ0 (T 0).mem w0 ρ (T ops.size).mem w → Q .normal a w) :
    ∀ (fuel : Nat) (listed : Array Bool) (a : Act) (w : World) (ρ : Ren) (M : Mem), ((List.range ops.size).filter fun j => !listed.getD j false).length ≤ fuel → PartG ops T cls ρ0 w0 listed a w ρ M →
      wpAny P .any ops Q fuel listed a w := by
  have done : ∀ (listed : Array Bool) (a : Act) (w : World) (ρ : Ren) (M : Mem), (∀ j, j < ops.size → listed.getD j false = true) → PartG ops T cls ρ0 w0 listed a w ρ M → Q .normal a w := by
    intro listed a w ρ M hall h
    have hMe : M = (T ops.size).mem := by
      refine List.ext_getElem? fun k => ?_
      rcases Nat.lt_or_ge k M.length with hk | hk
      · exact h.cont k ops.size (Nat.le_refl _) (by rw [← h.total]; exact hk) fun l hl _ => ⟨fun _ => hall l hl, fun _ => hl⟩
      · rw [List.getElem?_eq_none hk, List.getElem?_eq_none (by rw [← h.total]; exact hk)]
    have hm := h.mem
    have hv := h.mv
    rw [hMe] at hm hv
    refine hQ a w ρ ⟨⟨?_, fun t v u hv hu => ?_⟩, h.defers, hm⟩ hv
    · rw [h.len, traceG_len hT _ (Nat.le_refl _)]
    · have := h.slot t ops.size (Nat.le_refl _) fun i o ho _ => by
        have hi := (Array.getElem?_eq_some_iff.1 ho).1
        exact ⟨fun _ => hall i hi, fun _ => hi⟩
      rw [hv, hu] at this
      exact this
  have some_ready : ∀ (listed : Array Bool), listed.size = ops.size → Region.ready .any ops listed = [] → ∀ j, j < ops.size → listed.getD j false = true := by
    intro listed hsz hr j
    induction j using Nat.strongRecOn with
    | _ j ih =>
      intro hj
      cases hl : listed.getD j false with
      | true => rfl
      | false =>
        exfalso
        have ho : ops[j]? = some ops[j] := Array.getElem?_eq_getElem hj
        have : j ∈ Region.ready .any ops listed := mem_ready.2 ⟨by rw [getD_false_true (hsz ▸ hj)]; exact hl, _, ho, fun e he hb => by
          have hlt := hF.edge j _ ho e he hb
          exact ih e.on hlt (by omega)⟩
        rw [hr] at this
        cases this
  intro fuel
  induction fuel with
  | zero =>
    intro listed a w ρ M hf h
    have hall : ∀ j, j < ops.size → listed.getD j false = true := fun j hj => by
      cases hl : listed.getD j false with
      | true => rfl
      | false =>
        have : j ∈ (List.range ops.size).filter fun j => !listed.getD j false := List.mem_filter.2 ⟨List.mem_range.2 hj, by rw [hl]; rfl⟩
        have := List.length_pos_of_mem this
        omega
    refine ⟨?_, done listed a w ρ M hall h⟩
    rw [List.eq_nil_iff_forall_not_mem]
    intro j hj
    obtain ⟨h0, o, ho, _⟩ := mem_ready.1 hj
    have hjl := (Array.getElem?_eq_some_iff.1 ho).1
    rw [getD_false_true (h.size ▸ hjl), hall j hjl] at h0
    cases h0
  | succ fuel ih =>
    intro listed a w ρ M hf h
    refine ⟨fun hr => done listed a w ρ M (some_ready listed h.size hr) h, fun i hi' => ?_⟩
    obtain ⟨h0, o, ho, hall⟩ := mem_ready.1 hi'
    have hil := (Array.getElem?_eq_some_iff.1 ho).1
    rw [getD_false_true (h.size ▸ hil)] at h0
    refine h.step hT hF hM0 h0 hil (fun o' ho' e he hb => ?_) fun a' w' ρ' M' h' => ?_
    · rw [ho] at ho'; cases ho'; exact hall e he hb
    · exact ih _ a' w' ρ' M' (by have := count_set listed ops.size i h.size hil h0; omega) h'

/-- A REGION, IN WHATEVER ORDER, what is written told apart block by block. -/
theorem region_of_traceG (hm : P.follows .mixedOrders = true) {id : Nat} (hT : TraceG P ops T cls) (hF : ∃ bef, FitsG ops cls bef) {Q : Exit → St → Prop} (hQ : Q .normal (T ops.size)) :
    Tri P (.region id ops true) (T 0) Q := by
  intro ρ a w hr
  obtain ⟨bef, hF⟩ := hF
  refine wp_region_any hm ?_
  obtain ⟨M, hl, hM⟩ := traceG_first hT ops.size (Nat.le_refl _)
  have hpm : ∀ (k : Nat) (B : Blk), (T 0).mem[k]? = some B → M[k]? = some B := fun k B hB => by
    rw [hM k 0 (by omega) (List.getElem?_eq_some_iff.1 hB).1 fun l hl => by omega]; exact hB
  have hM0 : MRel ρ (T 0).mem { w with drawn := w.drawn + 1 } := ⟨hr.mem.cell, hr.mem.apart⟩
  have hfalse : ∀ j, (Array.replicate ops.size false).getD j false = false := fun j => by
    simp only [Array.getD_eq_getD_getElem?, Array.getElem?_replicate]
    split <;> rfl
  refine PartG.any hT hF hM0 (fun a' w' ρ' hr' hm' => ⟨_, ρ', hQ, hr', ⟨hm'.sub, hm'.new, hm'.kept, hm'.os, hm'.tape, hm'.output, hm'.size, hm'.block⟩⟩) ops.size _ a _ ρ M ?_
    ⟨by simp, fun j o ho hl => ?_, hl, fun k j hj hk hc => hM k j hj hk fun l hl hlc => ?_, hM0.ext hpm, fun k x hx => ?_, hr.tmps.1.symm, fun t j hj hc => ?_, hr.defers, (Mv.refl _ _ _).ext_right hpm⟩
  · exact Nat.le_trans (List.length_filter_le _ _) (by simp)
  · rw [hfalse] at hl; cases hl
  · have := (hc l (by omega) hlc).1 hl
    rw [hfalse] at this
    cases this
  · obtain ⟨b, s⟩ := x
    obtain ⟨C, hC, _⟩ := hr.mem.cell k b s hx
    exact .inl (List.getElem?_eq_some_iff.1 hC).1
  · rw [traceG_tmp hT t 0 j (by omega) hj fun k o _ hk ho hd => by have := (hc k o ho hd).1 hk; rw [hfalse] at this; cases this]
    exact hr.tmps.sr t

end
end Go.Ev
