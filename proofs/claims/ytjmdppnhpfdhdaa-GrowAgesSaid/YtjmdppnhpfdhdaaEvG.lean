/-
  Relative states, part G: a region's operations: in the order of the text, and in whatever order is drawn.
-/
import Derived.Test.YtjmdppnhpfdhdaaEvF
namespace Go.Ev

/-- The values of a list's places, or none on both sides. -/
def SR (ρ : Ren) (x y : Option Value) : Prop :=
  match x, y with
  | some v, some u => VR ρ v u
  | none, none => True
  | _, _ => False
theorem SR.mono {ρ ρ' : Ren} (h : ρ.le ρ') {x y : Option Value} (hs : SR ρ x y) : SR ρ' x y := by
  unfold SR at *
  split at hs
  · exact hs.mono h
  · trivial
  · exact hs
theorem PW.sr {ρ : Ren} {l : List Value} {m : List Value} (h : PW (VR ρ) l m) (t : Nat) : SR ρ l[t]? m[t]? := by
  cases hl : l[t]? with
  | none =>
    have : m[t]? = none := by rw [List.getElem?_eq_none_iff] at hl ⊢; have := h.1; omega
    rw [this]; trivial
  | some v => obtain ⟨u, hu, hR⟩ := h.get hl; rw [hu]; exact hR

def boolOf : Option Value → Option Bool
  | some (.bool b) => some b
  | _ => none
def notWild : Option Value → Bool
  | some (.tuple vs) => !isWild vs.toList
  | _ => true
theorem SR.boolOf {ρ : Ren} {x y : Option Value} (h : SR ρ x y) (hn : notWild x = true) : boolOf y = boolOf x := by
  unfold SR at h
  split at h
  · rename_i v u
    by_cases hv : ∃ b, v = .bool b
    · obtain ⟨b, rfl⟩ := hv; rw [(VR_flat rfl).1 h]
    · have h1 : Go.Ev.boolOf (some v) = none := by cases v <;> first | rfl | (exact absurd ⟨_, rfl⟩ hv)
      rw [h1]
      cases u with
      | bool b =>
        exfalso
        cases v with
        | bool c => exact hv ⟨_, rfl⟩
        | tuple vs => obtain ⟨us, h2, _⟩ := (VR_tuple (by simpa [notWild] using hn)).1 h; cases h2
        | agg cs => obtain ⟨us, h2, _⟩ := VR2_agg.1 ((VR_of2 (by simp)).1 h); cases h2
        | pointer a => cases a with
          | none => have := (VR_flat rfl).1 h; cases this
          | some a => rw [VR_of2 (by simp), VR2_of1 (by simp), VR1_ptr] at h; obtain ⟨_, _, h2⟩ := h; cases h2
        | slice a l c => cases a with
          | none => have := (VR_flat rfl).1 h; cases this
          | some a => rw [VR_of2 (by simp), VR2_of1 (by simp), VR1_slice] at h; obtain ⟨_, _, h2⟩ := h; cases h2
        | _ => have := (VR_flat rfl).1 h; cases this
      | _ => rfl
  · rfl
  · exact h.elim

def yieldedL (ops : Array Oper) (tmps : List Value) (j : Nat) : Option Bool := boolOf (((ops[j]?).bind (·.dst)).bind (tmps[·]?))
def wantedL (ops : Array Oper) (tmps : List Value) (o : Oper) : Bool := Region.wanted o (yieldedL ops tmps)
/-- Is the test that an operation hangs on known? -/
def guardOk (ops : Array Oper) (tmps : List Value) (o : Oper) : Bool := match o.guard with | none => true | some (g, _) => notWild (((ops[g]?).bind (·.dst)).bind (tmps[·]?))
def putL (tmps : List Value) (dst : Option Tmp) (v : Value) : List Value := match dst with | some d => tmps.set d v | none => tmps

theorem yielded_eq (ops : Array Oper) (tmps : Array Value) (j : Nat) : yielded ops tmps j = boolOf (((ops[j]?).bind (·.dst)).bind (tmps[·]?)) := by
  unfold yielded boolOf
  rfl

section
variable {P : Program} {ops : Array Oper}

/-- One operation, from state to state; the class: 0 asks nothing of memory, 1 reads or makes, 2 writes. -/
def StepR (Ms : Mem → Prop) (P : Program) (ops : Array Oper) (o : Oper) (S S' : St) (k : Nat) : Prop :=
  guardOk ops S.tmps o = true ∧ ((wantedL ops S.tmps o = false ∧ S'.tmps = putL S.tmps o.dst undef ∧ S'.mem = S.mem ∧ k = 0) ∨
  (wantedL ops S.tmps o = true ∧ ∃ v, S'.tmps = putL S.tmps o.dst v ∧
    ((k = 0 ∧ S'.mem = S.mem ∧ ∀ M, Ms M → NonW P o S.eval v M none) ∨ (k = 1 ∧ S'.mem = S.mem ∧ NonW P o S.eval v S.mem none) ∨
     (k = 1 ∧ ∃ B, S'.mem = S.mem ++ [B] ∧ NonW P o S.eval v S'.mem (some S.mem.length)) ∨ (k = 2 ∧ Wr P o S.eval v S.mem S'.mem))))

theorem putL_rel {ρ : Ren} {a : Act} {tmps : List Value} (h : PW (VR ρ) tmps a.tmps.toList) (dst : Option Tmp) {v u : Value} (hv : VR ρ v u) : PW (VR ρ) (putL tmps dst v) (a.put dst u).tmps.toList := by
  cases dst with
  | none => exact h
  | some d => simp only [putL, Act.put, Array.toList_setIfInBounds]; exact h.set d hv

theorem wanted_rel {ρ : Ren} {a : Act} {tmps : List Value} (h : PW (VR ρ) tmps a.tmps.toList) (o : Oper) (hg : guardOk ops tmps o = true) : Region.wanted o (yielded ops a.tmps) = wantedL ops tmps o := by
  unfold wantedL Region.wanted
  unfold guardOk at hg
  cases ho : o.guard with
  | none => rfl
  | some gw =>
    obtain ⟨g, want⟩ := gw
    rw [ho] at hg
    simp only at hg ⊢
    have : yielded ops a.tmps g = yieldedL ops tmps g := by
      rw [yielded_eq, yieldedL]
      cases hd : (ops[g]?).bind (·.dst) with
      | none => rfl
      | some t =>
        rw [hd] at hg
        simp only [Option.bind_some] at hg ⊢
        rw [← Array.getElem?_toList]
        exact (h.sr t).boolOf hg
    rw [this]

theorem prefix_self (m : Mem) : ∀ (k : Nat) (B : Blk), m[k]? = some B → m[k]? = some B := fun _ _ h => h

theorem MRel.ext {ρ : Ren} {m M : Mem} {w : World} (h : MRel ρ m w) (hm : ∀ (k : Nat) (B : Blk), m[k]? = some B → M[k]? = some B) : MRel ρ M w := by
  refine ⟨fun k b s hk => ?_, fun k b s k' b' s' B hk hk' hB ho hne => ?_⟩
  · obtain ⟨B, hB, r⟩ := h.cell k b s hk; exact ⟨B, hm k B hB, r⟩
  · obtain ⟨B', hB', _⟩ := h.cell k b s hk
    have := hm k B' hB'
    rw [hB] at this
    cases this
    exact h.apart k b s k' b' s' B hk hk' hB' ho hne

theorem Mv.ext_right {ρ ρ' : Ren} {m m' M : Mem} {w w' : World} (h : Mv ρ m w ρ' m' w') (hm : ∀ (k : Nat) (B : Blk), m'[k]? = some B → M[k]? = some B) : Mv ρ m w ρ' M w' :=
  ⟨h.sub, h.new, fun k B hB => let ⟨B', h1, h2⟩ := h.kept k B hB; ⟨B', hm k B' h1, h2⟩, h.os, h.tape, h.output, h.size, h.block⟩

theorem Mv.ext_left {ρ ρ' : Ren} {m M m' : Mem} {w w' : World} (h : Mv ρ M w ρ' m' w') (hM : MRel ρ m w) (hm : ∀ (k : Nat) (B : Blk), m[k]? = some B → M[k]? = some B) : Mv ρ m w ρ' m' w' :=
  ⟨h.sub, h.new, fun k B hB => h.kept k B (hm k B hB), h.os, h.tape, h.output, h.size, fun b hb hk => h.block b hb fun k s B hρ hB => by
    obtain ⟨B', hB', _⟩ := hM.cell k b s hρ
    have := hm k B' hB'
    rw [hB] at this
    cases this
    exact hk k s B hρ hB'⟩

theorem append_pre (m : Mem) (B : Blk) : ∀ (k : Nat) (C : Blk), m[k]? = some C → (m ++ [B])[k]? = some C := fun k C h => by
  rw [List.getElem?_append_left (List.getElem?_eq_some_iff.1 h).1]; exact h

theorem StepR.exec {Ms : Mem → Prop} {i k : Nat} {o : Oper} {S S' : St} (ho : ops[i]? = some o) (h : StepR Ms P ops o S S' k) (hms : Ms S.mem) {ρ : Ren} {a : Act} {w : World} (hr : ARel ρ S a w)
    {K : Act → World → Prop} {Q : Exit → Act → World → Prop} (hK : ∀ a' w' ρ', ARel ρ' S' a' w' → Mv ρ S.mem w ρ' S'.mem w' → K a' w') : wpOp P ops Q i K a w := by
  unfold wpOp
  rw [ho]
  simp only
  obtain ⟨hg, h⟩ := h
  rw [wanted_rel hr.tmps o hg]
  rcases h with ⟨hw, ht, hm, _⟩ | ⟨hw, v, ht, h⟩
  · rw [hw]
    simp only [Bool.false_eq_true, if_false]
    refine hK _ w ρ ⟨by rw [ht]; exact putL_rel hr.tmps _ VR_undef, ?_, by rw [hm]; exact hr.mem⟩ (by rw [hm]; exact .refl _ _ _)
    cases o.dst <;> exact hr.defers
  · rw [hw]
    simp only [if_true]
    refine .inl ?_
    have hH : ∀ x ∈ o.op.operands, ∀ u, S.eval x = some u → VR ρ u (a.eval x) := fun x _ u hu => ARel.eval hr.tmps hu
    have hd : ∀ u, (a.put o.dst u).defers = [] := fun u => by cases o.dst <;> exact hr.defers
    rcases h with ⟨_, hm, hn⟩ | ⟨_, hm, hn⟩ | ⟨_, B, hm, hn⟩ | ⟨_, hn⟩
    · refine hn S.mem hms S.mem (prefix_self _) ρ a w hH hr.mem (by simp) K Q fun u w' ρ' hu hM hmv _ => ?_
      exact hK _ w' ρ' ⟨by rw [ht]; exact putL_rel (hr.tmps.mono fun _ _ => VR.mono hmv.sub) _ hu, hd u, by rw [hm]; exact hM⟩ (by rw [hm]; exact hmv)
    · refine hn S.mem (prefix_self _) ρ a w hH hr.mem (by simp) K Q fun u w' ρ' hu hM hmv _ => ?_
      exact hK _ w' ρ' ⟨by rw [ht]; exact putL_rel (hr.tmps.mono fun _ _ => VR.mono hmv.sub) _ hu, hd u, by rw [hm]; exact hM⟩ (by rw [hm]; exact hmv)
    · have hpre : ∀ (k : Nat) (C : Blk), S.mem[k]? = some C → S'.mem[k]? = some C := by rw [hm]; exact append_pre _ _
      refine hn S'.mem (prefix_self _) ρ a w hH (hr.mem.ext hpre) (fun j hj => ?_) K Q fun u w' ρ' hu hM hmv _ => ?_
      · cases hj
        cases hρ : ρ S.mem.length with
        | none => rfl
        | some x =>
          obtain ⟨b, s⟩ := x
          obtain ⟨C, hC, _⟩ := hr.mem.cell _ b s hρ
          simp at hC
      · exact hK _ w' ρ' ⟨by rw [ht]; exact putL_rel (hr.tmps.mono fun _ _ => VR.mono hmv.sub) _ hu, hd u, hM⟩ (hmv.ext_left hr.mem hpre)
    · refine hn ρ a w hH hr.mem K Q fun u w' ρ' hu hM hmv => ?_
      exact hK _ w' ρ' ⟨by rw [ht]; exact putL_rel (hr.tmps.mono fun _ _ => VR.mono hmv.sub) _ hu, hd u, hM⟩ hmv

/-- The states that the region's operations pass, in the order of the text. -/
def Trace (P : Program) (ops : Array Oper) (T : Nat → St) (cls : Nat → Nat) : Prop :=
  ∀ i, i < ops.size → ∃ o, ops[i]? = some o ∧ StepR (fun M => ∃ j, j ≤ ops.size ∧ M = (T j).mem) P ops o (T i) (T (i + 1)) (cls i)

theorem wpOps_of_trace {T : Nat → St} {cls : Nat → Nat} (h : Trace P ops T cls) {Q : Exit → Act → World → Prop} : ∀ (m i : Nat), i + m = ops.size → ∀ (ρ : Ren) (a : Act) (w : World), ARel ρ (T i) a w →
    (∀ a' w' ρ', ARel ρ' (T ops.size) a' w' → Mv ρ (T i).mem w ρ' (T ops.size).mem w' → Q .normal a' w') → wpOps P ops Q (List.range' i m) a w
  | 0, i, hi, ρ, a, w, hr, hQ => by
    simp only [Nat.add_zero] at hi
    subst hi
    exact hQ a w ρ hr (.refl _ _ _)
  | m + 1, i, hi, ρ, a, w, hr, hQ => by
    obtain ⟨o, ho, hst⟩ := h i (by omega)
    rw [List.range'_succ, wpOps_cons]
    refine hst.exec ho ⟨i, by omega, rfl⟩ hr fun a1 w1 ρ1 hr1 hm1 => ?_
    exact wpOps_of_trace h m (i + 1) (by omega) ρ1 a1 w1 hr1 fun a2 w2 ρ2 hr2 hm2 => hQ a2 w2 ρ2 hr2 (hm1.trans hr.mem hm2)

/-! ### Drawn orders -/
/-- What the order of a region must keep: each edge leads back; bef is what the edges give; who shares a temporary waits; a writer waits for whoever reads or makes, and they for it. -/
structure Fits (ops : Array Oper) (cls : Nat → Nat) (bef : Nat → Nat → Bool) : Prop where
  edge : ∀ (i : Nat) o, ops[i]? = some o → ∀ e ∈ o.after, Region.binds .any e = true → e.on < i
  via : ∀ (i j : Nat), bef i j = true → ∃ o, ops[j]? = some o ∧ ∃ e ∈ o.after, Region.binds .any e = true ∧ (e.on = i ∨ bef i e.on = true)
  tmps : ∀ (i j : Nat) oi oj, i < j → ops[i]? = some oi → ops[j]? = some oj → bef i j = true ∨ ((∀ d, oi.dst = some d → d ∉ oj.looksAt ops ∧ oj.dst ≠ some d) ∧ ∀ d, oj.dst = some d → d ∉ oi.looksAt ops)
  mems : ∀ (i j : Nat), i < j → j < ops.size → (cls i = 2 ∧ 1 ≤ cls j) ∨ (1 ≤ cls i ∧ cls j = 2) → bef i j = true

variable {T : Nat → St} {cls : Nat → Nat} {bef : Nat → Nat → Bool}

theorem trace_len (h : Trace P ops T cls) : ∀ i, i ≤ ops.size → (T i).tmps.length = (T 0).tmps.length
  | 0, _ => rfl
  | i + 1, hi => by
    obtain ⟨o, ho, hst⟩ := h i (by omega)
    rw [← trace_len h i (by omega)]
    rcases hst.2 with ⟨_, ht, _⟩ | ⟨_, v, ht, _⟩ <;> rw [ht] <;> unfold putL <;> split <;> simp

theorem trace_tmp (h : Trace P ops T cls) (t i : Nat) : ∀ j, i ≤ j → j ≤ ops.size → (∀ k o, i ≤ k → k < j → ops[k]? = some o → o.dst ≠ some t) → (T j).tmps[t]? = (T i).tmps[t]?
  | 0, hi, _, _ => by rw [Nat.le_zero.1 hi]
  | j + 1, hi, hj, hk => by
    by_cases hij : i = j + 1
    · rw [hij]
    · rw [← trace_tmp h t i j (by omega) (by omega) (fun k o h1 h2 => hk k o h1 (by omega))]
      obtain ⟨o, ho, hst⟩ := h j (by omega)
      have hne := hk j o (by omega) (by omega) ho
      have : ∀ v, (putL (T j).tmps o.dst v)[t]? = (T j).tmps[t]? := fun v => by
        unfold putL
        split
        · rename_i d hd
          rw [List.getElem?_set_ne (fun e => hne (by rw [hd, e]))]
        · rfl
      rcases hst.2 with ⟨_, ht, _⟩ | ⟨_, v, ht, _⟩ <;> rw [ht, this]

theorem trace_mem (h : Trace P ops T cls) (i : Nat) : ∀ j, i ≤ j → j ≤ ops.size → (∀ k, i ≤ k → k < j → cls k ≠ 2) → ∀ (k : Nat) (B : Blk), (T i).mem[k]? = some B → (T j).mem[k]? = some B
  | 0, hi, _, _, k, B, hB => by rw [← Nat.le_zero.1 hi]; exact hB
  | j + 1, hi, hj, hk, k, B, hB => by
    by_cases hij : i = j + 1
    · rw [← hij]; exact hB
    · have ih := trace_mem h i j (by omega) (by omega) (fun k h1 h2 => hk k h1 (by omega)) k B hB
      obtain ⟨o, ho, hst⟩ := h j (by omega)
      have hne := hk j (by omega) (by omega)
      rcases hst.2 with ⟨_, _, hm, _⟩ | ⟨_, v, _, ⟨_, hm, _⟩ | ⟨_, hm, _⟩ | ⟨_, C, hm, _⟩ | ⟨h2, _⟩⟩
      · rw [hm]; exact ih
      · rw [hm]; exact ih
      · rw [hm]; exact ih
      · rw [hm]; exact append_pre _ _ _ _ ih
      · exact absurd h2 hne

theorem mem_le_of_pre {m M : Mem} (h : ∀ (k : Nat) (B : Blk), m[k]? = some B → M[k]? = some B) : m.length ≤ M.length := by
  rcases Nat.eq_zero_or_pos m.length with h0 | h0
  · omega
  · have hl : m[m.length - 1]? = some (m[m.length - 1]'(by omega)) := List.getElem?_eq_getElem _
    have := (List.getElem?_eq_some_iff.1 (h _ _ hl)).1
    omega

theorem next_writer (cls : Nat → Nat) (n : Nat) : ∀ (m lo : Nat), lo + m = n → ∃ hi, lo ≤ hi ∧ hi ≤ n ∧ (∀ i, lo ≤ i → i < hi → cls i ≠ 2) ∧ (hi = n ∨ cls hi = 2)
  | 0, lo, h => ⟨lo, Nat.le_refl _, by omega, fun i h1 h2 => by omega, .inl (by omega)⟩
  | m + 1, lo, h => by
    by_cases hc : cls lo = 2
    · exact ⟨lo, Nat.le_refl _, by omega, fun i h1 h2 => by omega, .inr hc⟩
    · obtain ⟨hi, h1, h2, h3, h4⟩ := next_writer cls n m (lo + 1) (by omega)
      refine ⟨hi, by omega, h2, fun i h5 h6 => ?_, h4⟩
      by_cases hi' : i = lo
      · rw [hi']; exact hc
      · exact h3 i (by omega) h6

/-- Where a region stands when some of its operations have been carried out. -/
structure Part (ops : Array Oper) (T : Nat → St) (cls : Nat → Nat) (ρ0 : Ren) (w0 : World) (listed : Array Bool) (a : Act) (w : World) (ρ : Ren) (lo hi : Nat) : Prop where
  size : listed.size = ops.size
  down : ∀ (j : Nat) o, ops[j]? = some o → listed.getD j false = true → ∀ e ∈ o.after, Region.binds .any e = true → listed.getD e.on false = true
  lohi : lo ≤ hi
  hin : hi ≤ ops.size
  before : ∀ i, i < ops.size → 1 ≤ cls i → i < lo → listed.getD i false = true
  behind : ∀ i, i < ops.size → 1 ≤ cls i → hi ≤ i → listed.getD i false = false
  quiet : ∀ i, lo ≤ i → i < hi → cls i ≠ 2
  top : hi = ops.size ∨ cls hi = 2
  mem : MRel ρ (T hi).mem w
  dom : ∀ k x, ρ k = some x → k < (T lo).mem.length ∨ ∃ j, lo ≤ j ∧ j < hi ∧ listed.getD j false = true ∧ (T j).mem.length ≤ k ∧ k < (T (j + 1)).mem.length
  len : a.tmps.toList.length = (T 0).tmps.length
  slot : ∀ t j, j ≤ ops.size → (∀ i o, ops[i]? = some o → o.dst = some t → (i < j ↔ listed.getD i false = true)) → SR ρ (T j).tmps[t]? a.tmps.toList[t]?
  defers : a.defers = []
  mv : Mv ρ0 (T 0).mem w0 ρ (T hi).mem w

theorem Part.down_bef {ρ0 ρ : Ren} {w0 w : World} {listed : Array Bool} {a : Act} {lo hi : Nat} (hF : Fits ops cls bef) (h : Part ops T cls ρ0 w0 listed a w ρ lo hi) (j : Nat) :
    ∀ i, bef i j = true → (∀ o, ops[j]? = some o → ∀ e ∈ o.after, Region.binds .any e = true → listed.getD e.on false = true) → listed.getD i false = true := by
  induction j using Nat.strongRecOn with
  | _ j ih =>
    intro i hb hall
    obtain ⟨o, ho, e, he, hbind, hor⟩ := hF.via i j hb
    have hl := hall o ho e he hbind
    rcases hor with rfl | hb2
    · exact hl
    · have hlt := hF.edge j o ho e he hbind
      exact ih e.on hlt i hb2 fun o' ho' e' he' hbind' => h.down e.on o' ho' hl e' he' hbind'

theorem getD_set (listed : Array Bool) (i j : Nat) (hi : i < listed.size) : (listed.setIfInBounds i true).getD j false = if i = j then true else listed.getD j false := by
  simp only [Array.getD_eq_getD_getElem?, Array.getElem?_setIfInBounds]
  split
  · rename_i h; subst h; simp
  · rfl

set_option maxHeartbeats 1000000 in
theorem Part.step {ρ0 ρ : Ren} {w0 w : World} {listed : Array Bool} {a : Act} {lo hi : Nat} (hT : Trace P ops T cls) (hF : Fits ops cls bef) (hM0 : MRel ρ0 (T 0).mem w0) (h : Part ops T cls ρ0 w0 listed a w ρ lo hi)
    {i : Nat} (hun : listed.getD i false = false) (hin : i < ops.size) (hpre : ∀ o, ops[i]? = some o → ∀ e ∈ o.after, Region.binds .any e = true → listed.getD e.on false = true)
    {K : Act → World → Prop} {Q : Exit → Act → World → Prop} (hK : ∀ a' w' ρ' lo' hi', Part ops T cls ρ0 w0 (listed.setIfInBounds i true) a' w' ρ' lo' hi' → K a' w') : wpOp P ops Q i K a w := by
  obtain ⟨o, ho, hst⟩ := hT i hin
  have hhin := h.hin
  have hil : i < listed.size := h.size ▸ hin
  -- who comes before i is listed, who comes behind it is not
  have hbef : ∀ j, bef j i = true → listed.getD j false = true := fun j hj => h.down_bef hF i j hj hpre
  have hbeh : ∀ j, bef i j = true → listed.getD j false = false := fun j hj => by
    cases hl : listed.getD j false with
    | false => rfl
    | true =>
      obtain ⟨oj, hoj, _⟩ := hF.via i j hj
      have := h.down_bef hF j i hj fun o' ho' e he hb => h.down j o' ho' hl e he hb
      rw [hun] at this
      cases this
  -- the temporaries that i looks at stand as in the text
  have hslot : ∀ t, (t ∈ o.looksAt ops ∨ o.dst = some t) → ∀ j oj, ops[j]? = some oj → oj.dst = some t → j ≠ i → (j < i ↔ listed.getD j false = true) := by
    intro t ht j oj hoj hd hne
    rcases Nat.lt_or_gt_of_ne hne with hlt | hgt
    · refine ⟨fun _ => ?_, fun _ => hlt⟩
      rcases hF.tmps j i oj o hlt hoj ho with hb | ⟨h1, _⟩
      · exact hbef j hb
      · rcases ht with ht | ht
        · exact absurd ht (h1 t hd).1
        · exact absurd ht (h1 t hd).2
    · refine ⟨fun hl => absurd hl (by omega), fun hl => ?_⟩
      rcases hF.tmps i j o oj hgt ho hoj with hb | ⟨h1, h2⟩
      · rw [hbeh j hb] at hl; cases hl
      · rcases ht with ht | ht
        · exact absurd ht (h2 t hd)
        · exact absurd hd (h1 t ht).2
  have hsr : ∀ t, t ∈ o.looksAt ops → SR ρ (T i).tmps[t]? a.tmps.toList[t]? := fun t ht => by
    refine h.slot t i (by omega) fun j oj hoj hd => ?_
    by_cases hji : j = i
    · subst hji
      constructor
      · intro hlt; omega
      · intro hl; rw [hun] at hl; cases hl
    · exact hslot t (.inl ht) j oj hoj hd hji
  have hw : Region.wanted o (yielded ops a.tmps) = wantedL ops (T i).tmps o := by
    have hgk := hst.1
    unfold wantedL Region.wanted
    unfold guardOk at hgk
    cases hg : o.guard with
    | none => rfl
    | some gw =>
      obtain ⟨g, want⟩ := gw
      rw [hg] at hgk
      simp only at hgk ⊢
      have : yielded ops a.tmps g = yieldedL ops (T i).tmps g := by
        rw [yielded_eq, yieldedL]
        cases hd : (ops[g]?).bind (·.dst) with
        | none => rfl
        | some t =>
          rw [hd] at hgk
          simp only [Option.bind_some] at hgk ⊢
          rw [← Array.getElem?_toList]
          exact (hsr t (List.mem_append_right _ (by simp [hg, hd]))).boolOf hgk
      rw [this]
  have hH : ∀ x ∈ o.op.operands, ∀ u, (T i).eval x = some u → VR ρ u (a.eval x) := by
    intro x hx u hu
    cases x with
    | tmp t =>
      simp only [St.eval, Option.some.injEq] at hu
      subst hu
      have := hsr t (List.mem_append_left _ (List.mem_filterMap.2 ⟨.tmp t, by simpa using hx, rfl⟩))
      simp only [Act.eval, Array.getD_eq_getD_getElem?, List.getD_eq_getElem?_getD]
      rw [← Array.getElem?_toList]
      unfold SR at this
      split at this
      · rename_i e1 e2; rw [e1, e2]; exact this
      · rename_i e1 e2; rw [e1, e2]; exact VR_undef
      · exact this.elim
    | const c =>
      simp only [St.eval] at hu
      split at hu
      · rename_i hf; cases hu; exact (VR_flat hf).2 rfl
      · cases hu
    | global g => cases hu
    | func f => cases hu; exact (VR_flat rfl).2 rfl
  -- what the new temporaries say
  have hnew : ∀ (ρ' : Ren) (v u : Value), ρ.le ρ' → VR ρ' v u → (T (i + 1)).tmps = putL (T i).tmps o.dst v →
      ∀ t j, j ≤ ops.size → (∀ k ok, ops[k]? = some ok → ok.dst = some t → (k < j ↔ (listed.setIfInBounds i true).getD k false = true)) → SR ρ' (T j).tmps[t]? (a.put o.dst u).tmps.toList[t]? := by
    intro ρ' v u hle hvu ht t j hj hcond
    by_cases hd : o.dst = some t
    · have hij : i < j := (hcond i o ho hd).2 (by rw [getD_set _ _ _ hil]; simp)
      have heq : (T j).tmps[t]? = (T (i + 1)).tmps[t]? := by
        refine trace_tmp hT t (i + 1) j (by omega) hj fun k ok h1 h2 hok hdk => ?_
        have hl := (hcond k ok hok hdk).1 h2
        rw [getD_set _ _ _ hil, if_neg (by omega)] at hl
        have := (hslot t (.inr hd) k ok hok hdk (by omega)).2 hl
        omega
      rw [heq, ht, hd]
      simp only [putL, Act.put, Array.toList_setIfInBounds, List.getElem?_set, if_true]
      have hlen : (T i).tmps.length = a.tmps.toList.length := (trace_len hT i (by omega)).trans h.len.symm
      rw [← hlen]
      split
      · exact hvu
      · trivial
    · have h1 : (a.put o.dst u).tmps.toList[t]? = a.tmps.toList[t]? := by
        cases hdd : o.dst with
        | none => rfl
        | some d =>
          simp only [Act.put, Array.toList_setIfInBounds]
          rw [List.getElem?_set_ne (fun e => hd (by rw [hdd, e]))]
      rw [h1]
      refine (h.slot t j hj fun k ok hok hdk => ?_).mono hle
      have hki : i ≠ k := fun e => by
        subst e
        rw [ho] at hok
        cases hok
        exact hd hdk
      rw [hcond k ok hok hdk, getD_set _ _ _ hil, if_neg hki]
  have hlenp : ∀ u, (a.put o.dst u).tmps.toList.length = (T 0).tmps.length := fun u => by rw [← h.len]; cases o.dst <;> simp [Act.put]
  have hdp : ∀ u, (a.put o.dst u).defers = [] := fun u => by cases o.dst <;> exact h.defers
  have hdown : ∀ (j : Nat) oj, ops[j]? = some oj → (listed.setIfInBounds i true).getD j false = true → ∀ e ∈ oj.after, Region.binds .any e = true → (listed.setIfInBounds i true).getD e.on false = true := by
    intro j oj hoj hl e he hb
    rw [getD_set _ _ _ hil] at hl ⊢
    by_cases hij : i = j
    · subst hij; rw [hpre oj hoj e he hb]; simp
    · rw [if_neg hij] at hl; rw [h.down j oj hoj hl e he hb]; simp
  -- whoever asks memory lies in the phase
  have hlo : 1 ≤ cls i → lo ≤ i := fun hc => by
    rcases Nat.lt_or_ge i lo with hlt | hge
    · have := h.before i hin hc hlt
      rw [hun] at this
      cases this
    · exact hge
  have hnot : 1 ≤ cls i → ¬ hi < i := fun hc hlt => by
    have h2 : cls hi = 2 := h.top.resolve_left (by omega)
    have := hbef hi (hF.mems hi i hlt hin (.inl ⟨h2, hc⟩))
    rw [h.behind hi (by omega) (by omega) (Nat.le_refl _)] at this
    cases this
  -- the phase stays
  have stay : ∀ (ρ' : Ren) (v u : Value) (w' : World), cls i ≠ 2 → (1 ≤ cls i → i < hi) → VR ρ' v u → MRel ρ' (T hi).mem w' → Mv ρ (T hi).mem w ρ' (T hi).mem w' → (T (i + 1)).tmps = putL (T i).tmps o.dst v →
      (∀ k x, ρ' k = some x → ρ k = some x ∨ (lo ≤ i ∧ i < hi ∧ (T i).mem.length ≤ k ∧ k < (T (i + 1)).mem.length)) →
      Part ops T cls ρ0 w0 (listed.setIfInBounds i true) (a.put o.dst u) w' ρ' lo hi := by
    intro ρ' v u w' hc2 hchi hvu hM hmv ht hdom
    refine ⟨by simp [h.size], hdown, h.lohi, h.hin, fun k hk hck hkl => ?_, fun k hk hck hkh => ?_, h.quiet, h.top, hM, fun k x hx => ?_, hlenp u, hnew ρ' v u hmv.sub hvu ht, hdp u, h.mv.trans hM0 hmv⟩
    · rw [getD_set _ _ _ hil, h.before k hk hck hkl]; simp
    · rw [getD_set _ _ _ hil, if_neg (fun e => ?_)]
      · exact h.behind k hk hck hkh
      · subst e; have := hchi hck; omega
    · rcases hdom k x hx with h1 | h1
      · rcases h.dom k x h1 with h2 | ⟨j, h2, h3, h4, h5⟩
        · exact .inl h2
        · exact .inr ⟨j, h2, h3, by rw [getD_set _ _ _ hil, h4]; simp, h5⟩
      · exact .inr ⟨i, h1.1, h1.2.1, by rw [getD_set _ _ _ hil]; simp, h1.2.2⟩
  unfold wpOp
  rw [ho]
  simp only
  rw [hw]
  rcases hst.2 with ⟨hwd, ht, hm, hk⟩ | ⟨hwd, v, ht, hst⟩
  · rw [hwd]
    simp only [Bool.false_eq_true, if_false]
    exact hK _ w ρ lo hi (stay ρ undef undef w (by omega) (by omega) VR_undef h.mem (.refl _ _ _) ht fun k x hx => .inl hx)
  · rw [hwd]
    simp only [if_true]
    refine .inl ?_
    rcases hst with ⟨hk, hm, hn⟩ | ⟨hk, hm, hn⟩ | ⟨hk, B, hm, hn⟩ | ⟨hk, hn⟩
    · refine hn (T hi).mem ⟨hi, h.hin, rfl⟩ (T hi).mem (prefix_self _) ρ a w hH h.mem (by simp) K Q fun u w' ρ' hu hM hmv hdom => ?_
      exact hK _ w' ρ' lo hi (stay ρ' v u w' (by omega) (by omega) hu hM hmv ht fun k x hx => .inl ((hdom k x hx).resolve_right (by simp)))
    · have h1 : lo ≤ i := hlo (by omega)
      have h2 : i < hi := by
        rcases Nat.lt_trichotomy i hi with h2 | h2 | h2
        · exact h2
        · subst h2
          rcases h.top with h3 | h3 <;> omega
        · exact absurd h2 (hnot (by omega))
      have hpm : ∀ (k : Nat) (B : Blk), (T i).mem[k]? = some B → (T hi).mem[k]? = some B := trace_mem hT i hi (by omega) h.hin fun k h3 h4 => h.quiet k (by omega) h4
      refine hn (T hi).mem hpm ρ a w hH h.mem (by simp) K Q fun u w' ρ' hu hM hmv hdom => ?_
      exact hK _ w' ρ' lo hi (stay ρ' v u w' (by omega) (fun _ => h2) hu hM hmv ht fun k x hx => .inl ((hdom k x hx).resolve_right (by simp)))
    · have h1 : lo ≤ i := hlo (by omega)
      have h2 : i < hi := by
        rcases Nat.lt_trichotomy i hi with h2 | h2 | h2
        · exact h2
        · subst h2
          rcases h.top with h3 | h3 <;> omega
        · exact absurd h2 (hnot (by omega))
      have hpm : ∀ (k : Nat) (B : Blk), (T (i + 1)).mem[k]? = some B → (T hi).mem[k]? = some B := trace_mem hT (i + 1) hi (by omega) h.hin fun k h3 h4 => h.quiet k (by omega) h4
      have hl1 : (T (i + 1)).mem.length = (T i).mem.length + 1 := by rw [hm]; simp
      refine hn (T hi).mem hpm ρ a w hH h.mem (fun k hk' => ?_) K Q fun u w' ρ' hu hM hmv hdom => ?_
      · cases hk'
        cases hρ : ρ (T i).mem.length with
        | none => rfl
        | some x =>
          exfalso
          rcases h.dom _ x hρ with h3 | ⟨j, h3, h4, h5, h6, h7⟩
          · have := mem_le_of_pre (trace_mem hT lo i h1 (by omega) fun k h3 h4 => h.quiet k h3 (by omega))
            omega
          · rcases Nat.lt_trichotomy j i with h8 | h8 | h8
            · have := mem_le_of_pre (trace_mem hT (j + 1) i (by omega) (by omega) fun k h3 h4 => h.quiet k (by omega) (by omega))
              omega
            · subst h8; rw [hun] at h5; cases h5
            · have := mem_le_of_pre (trace_mem hT (i + 1) j (by omega) (by omega) fun k h3 h4 => h.quiet k (by omega) (by omega))
              omega
      · refine hK _ w' ρ' lo hi (stay ρ' v u w' (by omega) (fun _ => h2) hu hM hmv ht fun k x hx => ?_)
        rcases hdom k x hx with h3 | h3
        · exact .inl h3
        · cases h3
          exact .inr ⟨h1, h2, Nat.le_refl _, by omega⟩
    · have h1 : lo ≤ i := hlo (by omega)
      have h2 : i = hi := by
        rcases Nat.lt_trichotomy i hi with h2 | h2 | h2
        · exact absurd hk (h.quiet i h1 h2)
        · exact h2
        · exact absurd h2 (hnot (by omega))
      subst h2
      obtain ⟨hi', g1, g2, g3, g4⟩ := next_writer cls ops.size (ops.size - (i + 1)) (i + 1) (by omega)
      have hpm : ∀ (k : Nat) (B : Blk), (T (i + 1)).mem[k]? = some B → (T hi').mem[k]? = some B := trace_mem hT (i + 1) hi' g1 g2 g3
      refine hn ρ a w hH h.mem K Q fun u w' ρ' hu hM hmv => ?_
      refine hK _ w' ρ' (i + 1) hi' ⟨by simp [h.size], hdown, g1, g2, fun k hk hck hkl => ?_, fun k hk hck hkh => ?_, g3, g4, hM.ext hpm, fun k x hx => ?_, hlenp u, hnew ρ' v u hmv.sub hu ht, hdp u, (h.mv.trans hM0 hmv).ext_right hpm⟩
      · rw [getD_set _ _ _ hil]
        by_cases hki : i = k
        · simp [hki]
        · rw [if_neg hki]
          rcases Nat.lt_or_ge k lo with h3 | h3
          · exact h.before k hk hck h3
          · exact hbef k (hF.mems k i (by omega) hin (.inr ⟨hck, by assumption⟩))
      · rw [getD_set _ _ _ hil, if_neg (by omega)]
        exact h.behind k hk hck (by omega)
      · obtain ⟨b, s⟩ := x
        obtain ⟨C, hC, _⟩ := hM.cell k b s hx
        exact .inl (List.getElem?_eq_some_iff.1 hC).1


theorem count_set (listed : Array Bool) (n i : Nat) (hl : listed.size = n) (hi : i < n) (hun : listed.getD i false = false) :
    ((List.range n).filter fun j => !(listed.setIfInBounds i true).getD j false).length < ((List.range n).filter fun j => !listed.getD j false).length := by
  have h1 : ∀ l : List Nat, (l.filter fun j => !(listed.setIfInBounds i true).getD j false).length ≤ (l.filter fun j => !listed.getD j false).length ∧
      (i ∈ l → (l.filter fun j => !(listed.setIfInBounds i true).getD j false).length < (l.filter fun j => !listed.getD j false).length) := by
    intro l
    induction l with
    | nil => simp
    | cons x l ih =>
      by_cases hx : i = x
      · subst hx
        have e1 : (listed.setIfInBounds i true).getD i false = true := by rw [getD_set _ _ _ (hl ▸ hi)]; simp
        simp only [List.filter_cons, e1, hun, Bool.not_true, Bool.not_false, Bool.false_eq_true, if_false, if_true, List.length_cons]
        exact ⟨by omega, fun _ => by omega⟩
      · have e1 : (listed.setIfInBounds i true).getD x false = listed.getD x false := by rw [getD_set _ _ _ (hl ▸ hi), if_neg hx]
        simp only [List.filter_cons, e1]
        refine ⟨?_, fun hm => ?_⟩
        · split <;> (try simp only [List.length_cons]) <;> omega
        · have := ih.2 ((List.mem_cons.1 hm).resolve_left hx)
          split <;> (try simp only [List.length_cons]) <;> omega
  exact (h1 _).2 (List.mem_range.2 hi)

theorem getD_false_true {listed : Array Bool} {j : Nat} (hj : j < listed.size) : listed.getD j true = listed.getD j false := by
  simp [Array.getD_eq_getD_getElem?, Array.getElem?_eq_getElem hj]

theorem Part.any {ρ0 : Ren} {w0 : World} (hT : Trace P ops T cls) (hF : Fits ops cls bef) (hM0 : MRel ρ0 (T 0).mem w0) {Q : Exit → Act → World → Prop}
    (hQ : ∀ a w ρ, ARel ρ (T ops.size) a w → Mv ρ0 (T 0).mem w0 ρ (T ops.size).mem w → Q .normal a w) :
    ∀ (fuel : Nat) (listed : Array Bool) (a : Act) (w : World) (ρ : Ren) (lo hi : Nat), ((List.range ops.size).filter fun j => !listed.getD j false).length ≤ fuel → Part ops T cls ρ0 w0 listed a w ρ lo hi →
      wpAny P .any ops Q fuel listed a w := by
  -- all have come up: the state is the text's last
  have done : ∀ (listed : Array Bool) (a : Act) (w : World) (ρ : Ren) (lo hi : Nat), (∀ j, j < ops.size → listed.getD j false = true) → Part ops T cls ρ0 w0 listed a w ρ lo hi → Q .normal a w := by
    intro listed a w ρ lo hi hall h
    have hhi : hi = ops.size := by
      rcases h.top with h1 | h1
      · exact h1
      · rcases Nat.lt_or_ge hi ops.size with h2 | h2
        · have := h.behind hi h2 (by omega) (Nat.le_refl _)
          rw [hall hi h2] at this
          cases this
        · have := h.hin; omega
    subst hhi
    refine hQ a w ρ ⟨⟨?_, fun t v u hv hu => ?_⟩, h.defers, h.mem⟩ h.mv
    · rw [h.len, trace_len hT _ (Nat.le_refl _)]
    · have := h.slot t ops.size (Nat.le_refl _) fun i o ho _ => by
        have hi := (Array.getElem?_eq_some_iff.1 ho).1
        exact ⟨fun _ => hall i hi, fun _ => hi⟩
      rw [hv, hu] at this
      exact this
  -- somebody who has not come up may come up
  have some_ready : ∀ (listed : Array Bool), listed.size = ops.size → Region.ready .any ops listed = [] → ∀ j, j < ops.size → listed.getD j false = true := by
    intro listed hsz hr j
    induction j using Nat.strongRecOn with
    | _ j ih =>
      intro hj
      cases hl : listed.getD j false with
      | true => rfl
      | false =>
        exfalso
        have ho : ops[j]? = some ops[j] := Array.getElem?_eq_getElem hj
        have : j ∈ Region.ready .any ops listed := mem_ready.2 ⟨by rw [getD_false_true (hsz ▸ hj)]; exact hl, _, ho, fun e he hb => by
          have hlt := hF.edge j _ ho e he hb
          exact ih e.on hlt (by omega)⟩
        rw [hr] at this
        cases this
  intro fuel
  induction fuel with
  | zero =>
    intro listed a w ρ lo hi hf h
    have hall : ∀ j, j < ops.size → listed.getD j false = true := fun j hj => by
      cases hl : listed.getD j false with
      | true => rfl
      | false =>
        have : j ∈ (List.range ops.size).filter fun j => !listed.getD j false := List.mem_filter.2 ⟨List.mem_range.2 hj, by rw [hl]; rfl⟩
        have := List.length_pos_of_mem this
        omega
    refine ⟨?_, done listed a w ρ lo hi hall h⟩
    rw [List.eq_nil_iff_forall_not_mem]
    intro j hj
    obtain ⟨h0, o, ho, _⟩ := mem_ready.1 hj
    have hjl := (Array.getElem?_eq_some_iff.1 ho).1
    rw [getD_false_true (h.size ▸ hjl), hall j hjl] at h0
    cases h0
  | succ fuel ih =>
    intro listed a w ρ lo hi hf h
    refine ⟨fun hr => done listed a w ρ lo hi (some_ready listed h.size hr) h, fun i hi' => ?_⟩
    obtain ⟨h0, o, ho, hall⟩ := mem_ready.1 hi'
    have hil := (Array.getElem?_eq_some_iff.1 ho).1
    rw [getD_false_true (h.size ▸ hil)] at h0
    refine h.step hT hF hM0 h0 hil (fun o' ho' e he hb => ?_) fun a' w' ρ' lo' hi'' h' => ?_
    · rw [ho] at ho'; cases ho'; exact hall e he hb
    · exact ih _ a' w' ρ' lo' hi'' (by have := count_set listed ops.size i h.size hil h0; omega) h'

/-- A REGION, IN WHATEVER ORDER. -/
theorem region_of_trace (hm : P.follows .mixedOrders = true) {id : Nat} {draw : Bool} (hT : Trace P ops T cls) (hF : draw = true → ∃ bef, Fits ops cls bef) {Q : Exit → St → Prop} (hQ : Q .normal (T ops.size)) :
    Tri P (.region id ops draw) (T 0) Q := by
  intro ρ a w hr
  cases draw with
  | false =>
    refine wp_region ?_
    rw [List.range_eq_range']
    exact wpOps_of_trace hT ops.size 0 (by omega) ρ a w hr fun a' w' ρ' hr' hm' => ⟨_, ρ', hQ, hr', hm'⟩
  | true =>
    obtain ⟨bef, hF⟩ := hF rfl
    refine wp_region_any hm ?_
    obtain ⟨hi, h1, h2, h3, h4⟩ := next_writer cls ops.size ops.size 0 (by omega)
    have hpm : ∀ (k : Nat) (B : Blk), (T 0).mem[k]? = some B → (T hi).mem[k]? = some B := trace_mem hT 0 hi h1 h2 h3
    have hM0 : MRel ρ (T 0).mem { w with drawn := w.drawn + 1 } := ⟨hr.mem.cell, hr.mem.apart⟩
    have hfalse : ∀ j, (Array.replicate ops.size false).getD j false = false := fun j => by
      simp only [Array.getD_eq_getD_getElem?, Array.getElem?_replicate]
      split <;> rfl
    refine Part.any hT hF hM0 (fun a' w' ρ' hr' hm' => ⟨_, ρ', hQ, hr', ⟨hm'.sub, hm'.new, hm'.kept, hm'.os, hm'.tape, hm'.output, hm'.size, hm'.block⟩⟩) ops.size _ a _ ρ 0 hi ?_ ⟨by simp, fun j o ho hl => ?_, h1, h2, fun i _ _ hlt => by omega, fun i _ _ _ => hfalse i, h3, h4, hM0.ext hpm, fun k x hx => ?_, hr.tmps.1.symm, fun t j hj hc => ?_, hr.defers, (Mv.refl _ _ _).ext_right hpm⟩
    · exact Nat.le_trans (List.length_filter_le _ _) (by simp)
    · rw [hfalse] at hl; cases hl
    · obtain ⟨b, s⟩ := x
      obtain ⟨C, hC, _⟩ := hr.mem.cell k b s hx
      exact .inl (List.getElem?_eq_some_iff.1 hC).1
    · rw [trace_tmp hT t 0 j (by omega) hj fun k o _ hk ho hd => by have := (hc k o ho hd).1 hk; rw [hfalse] at this; cases this]
      exact hr.tmps.sr t

end
end Go.Ev
