/-
  Relative states, part G: a region's operations: in the order of the text, and in whatever order is drawn.
  Relative states, part Gb: regions in whatever order where what is written is told apart block by block.
  Relative states, part H: code as a whole, functions.
  Relative states, part I: calls that change the caller's memory; what they made themselves is left behind.
-/
import Derived.Test.YtljolfnpncjklaaGreatEv1
import Derived.Scope
/-! Relative states, part G: a region's operations: in the order of the text, and in whatever order is drawn. -/
namespace Go.Ev

/-- The values of a list's places, or none on both sides. -/
def SR (ρ : Ren) (x y : Option Value) : Prop :=
  match x, y with
  | some v, some u => VR ρ v u
  | none, none => True
  | _, _ => False
theorem SR.mono {ρ ρ' : Ren} (h : ρ.le ρ') {x y : Option Value} (hs : SR ρ x y) : SR ρ' x y := by
  unfold SR at *
  split at hs
  · exact hs.mono h
  · trivial
  · exact hs
theorem PW.sr {ρ : Ren} {l : List Value} {m : List Value} (h : PW (VR ρ) l m) (t : Nat) : SR ρ l[t]? m[t]? := by
  cases hl : l[t]? with
  | none =>
    have : m[t]? = none := by rw [List.getElem?_eq_none_iff] at hl ⊢; have := h.1; omega
    rw [this]; trivial
  | some v => obtain ⟨u, hu, hR⟩ := h.get hl; rw [hu]; exact hR

def boolOf : Option Value → Option Bool
  | some (.bool b) => some b
  | _ => none
def notWild : Option Value → Bool
  | some (.tuple vs) => !isWild vs.toList
  | _ => true
theorem SR.boolOf {ρ : Ren} {x y : Option Value} (h : SR ρ x y) (hn : notWild x = true) : boolOf y = boolOf x := by
  unfold SR at h
  split at h
  · rename_i v u
    by_cases hv : ∃ b, v = .bool b
    · obtain ⟨b, rfl⟩ := hv; rw [(VR_flat rfl).1 h]
    · have h1 : Go.Ev.boolOf (some v) = none := by cases v <;> first | rfl | (exact absurd ⟨_, rfl⟩ hv)
      rw [h1]
      cases u with
      | bool b =>
        exfalso
        cases v with
        | bool c => exact hv ⟨_, rfl⟩
        | tuple vs => obtain ⟨us, h2, _⟩ := (VR_tuple (by simpa [notWild] using hn)).1 h; cases h2
        | agg cs => obtain ⟨us, h2, _⟩ := VR2_agg.1 ((VR_of2 (by simp)).1 h); cases h2
        | pointer a => cases a with
          | none => have := (VR_flat rfl).1 h; cases this
          | some a => rw [VR_of2 (by simp), VR2_of1 (by simp), VR1_ptr] at h; obtain ⟨_, _, h2⟩ := h; cases h2
        | slice a l c => cases a with
          | none => have := (VR_flat rfl).1 h; cases this
          | some a => rw [VR_of2 (by simp), VR2_of1 (by simp), VR1_slice] at h; obtain ⟨_, _, h2⟩ := h; cases h2
        | func f x y => rw [VR_of2 (by simp), VR2_of1 (by simp), VR1_func] at h; obtain ⟨_, _, _, _, h2⟩ := h; cases h2
        | iface t v =>
          rw [VR_of2 (by simp), VR2_of1 (by simp)] at h
          rcases h.inv with ⟨_, _, h2, _⟩ | ⟨_, _, _, _, h2, _⟩ | ⟨_, _, _, _, _, h2, _⟩ | ⟨_, htr⟩ | ⟨_, _, h2⟩
          · cases h2
          · cases h2
          · cases h2
          · unfold tokR at htr
            split at htr
            · obtain ⟨_, _, h2, _⟩ := htr; cases h2
            · obtain ⟨_, _, h2, _⟩ := htr; cases h2
            · obtain ⟨_, _, _, h2, _⟩ := htr; cases h2
            · obtain ⟨_, _, _, h2, _⟩ := htr; cases h2
            · obtain ⟨_, _, _, h2, _⟩ := htr; cases h2
            · obtain ⟨_, _, h2, _⟩ := htr; cases h2
            · exact htr.elim
          · cases h2
        | _ => have := (VR_flat rfl).1 h; cases this
      | _ => rfl
  · rfl
  · exact h.elim

def yieldedL (ops : Array Oper) (tmps : List Value) (j : Nat) : Option Bool := boolOf (((ops[j]?).bind (·.dst)).bind (tmps[·]?))
def wantedL (ops : Array Oper) (tmps : List Value) (o : Oper) : Bool := Region.wanted o (yieldedL ops tmps)
/-- Is the test that an operation hangs on known? -/
def guardOk (ops : Array Oper) (tmps : List Value) (o : Oper) : Bool := match o.guard with | none => true | some (g, _) => notWild (((ops[g]?).bind (·.dst)).bind (tmps[·]?))
def putL (tmps : List Value) (dst : Option Tmp) (v : Value) : List Value := match dst with | some d => tmps.set d v | none => tmps

theorem yielded_eq (ops : Array Oper) (tmps : Array Value) (j : Nat) : yielded ops tmps j = boolOf (((ops[j]?).bind (·.dst)).bind (tmps[·]?)) := by
  unfold yielded boolOf
  rfl

section
variable {P : Program} {ops : Array Oper}

/-- One operation, from state to state; the class: 0 asks nothing of memory, 1 reads or makes, 2 writes. -/
def StepR (Ms : Mem → Prop) (P : Program) (ops : Array Oper) (o : Oper) (S S' : St) (k : Nat) : Prop :=
  guardOk ops S.tmps o = true ∧ ((wantedL ops S.tmps o = false ∧ S'.tmps = putL S.tmps o.dst undef ∧ S'.mem = S.mem ∧ k = 0) ∨
  (wantedL ops S.tmps o = true ∧ ∃ v, S'.tmps = putL S.tmps o.dst v ∧
    ((k = 0 ∧ S'.mem = S.mem ∧ ∀ M, Ms M → NonW P o S.eval v M none) ∨ (k = 1 ∧ S'.mem = S.mem ∧ NonW P o S.eval v S.mem none) ∨
     (k = 1 ∧ ∃ B, S'.mem = S.mem ++ [B] ∧ NonW P o S.eval v S'.mem (some S.mem.length)) ∨ (k = 2 ∧ Wr P o S.eval v S.mem S'.mem))))

theorem putL_rel {ρ : Ren} {a : Act} {tmps : List Value} (h : PW (VR ρ) tmps a.tmps.toList) (dst : Option Tmp) {v u : Value} (hv : VR ρ v u) : PW (VR ρ) (putL tmps dst v) (a.put dst u).tmps.toList := by
  cases dst with
  | none => exact h
  | some d => simp only [putL, Act.put, Array.toList_setIfInBounds]; exact h.set d hv

theorem wanted_rel {ρ : Ren} {a : Act} {tmps : List Value} (h : PW (VR ρ) tmps a.tmps.toList) (o : Oper) (hg : guardOk ops tmps o = true) : Region.wanted o (yielded ops a.tmps) = wantedL ops tmps o := by
  unfold wantedL Region.wanted
  unfold guardOk at hg
  cases ho : o.guard with
  | none => rfl
  | some gw =>
    obtain ⟨g, want⟩ := gw
    rw [ho] at hg
    simp only at hg ⊢
    have : yielded ops a.tmps g = yieldedL ops tmps g := by
      rw [yielded_eq, yieldedL]
      cases hd : (ops[g]?).bind (·.dst) with
      | none => rfl
      | some t =>
        rw [hd] at hg
        simp only [Option.bind_some] at hg ⊢
        rw [← Array.getElem?_toList]
        exact (h.sr t).boolOf hg
    rw [this]

theorem prefix_self (m : Mem) : ∀ (k : Nat) (B : Blk), m[k]? = some B → m[k]? = some B := fun _ _ h => h

theorem MRel.ext {ρ : Ren} {m M : Mem} {w : World} (h : MRel ρ m w) (hm : ∀ (k : Nat) (B : Blk), m[k]? = some B → M[k]? = some B) : MRel ρ M w := by
  refine ⟨fun k b s hk => ?_, fun k b s k' b' s' B hk hk' hB ho hne => ?_, fun b cs hh => ?_, ⟨fun b x hx => ?_, fun k B hB hl => ?_⟩⟩
  case refine_4 =>
    have hL := h.lists.lst b x hx
    exact hL.move (Nat.le_refl _) rfl hL.nomap hL.noh fun B hB hl => ⟨B, [], hm _ B hB, hl, (List.append_nil _).symm⟩
  case refine_5 =>
    cases hk : ρ k with
    | none => rfl
    | some x =>
      obtain ⟨B', hB', _⟩ := h.cell k x.1 x.2 hk
      have := hm k B' hB'
      rw [hB] at this
      cases this
      rw [h.lists.lmap k _ hB' hl] at hk
      cases hk
  case refine_3 =>
    obtain ⟨h1, h2, h3⟩ := h.froz b cs hh
    refine ⟨h1, h2, fun k s B hk hB => ?_⟩
    obtain ⟨B', hB', _⟩ := h.cell k b s hk
    have := hm k B' hB'
    rw [hB] at this
    cases this
    exact h3 k s B hk hB'
  · obtain ⟨B, hB, r⟩ := h.cell k b s hk; exact ⟨B, hm k B hB, r⟩
  · obtain ⟨B', hB', _⟩ := h.cell k b s hk
    have := hm k B' hB'
    rw [hB] at this
    cases this
    exact h.apart k b s k' b' s' B hk hk' hB' ho hne

theorem Mv.ext_right {ρ ρ' : Ren} {m m' M : Mem} {w w' : World} (h : Mv ρ m w ρ' m' w') (hm : ∀ (k : Nat) (B : Blk), m'[k]? = some B → M[k]? = some B) : Mv ρ m w ρ' M w' :=
  ⟨h.sub, h.new, fun k B hB => let ⟨B', h1, h2⟩ := h.kept k B hB; ⟨B', hm k B' h1, h2⟩, h.os, h.tape, h.output, h.size, h.block, h.newh, h.newg⟩

theorem Mv.ext_left {ρ ρ' : Ren} {m M m' : Mem} {w w' : World} (h : Mv ρ M w ρ' m' w') (hM : MRel ρ m w) (hm : ∀ (k : Nat) (B : Blk), m[k]? = some B → M[k]? = some B) : Mv ρ m w ρ' m' w' :=
  ⟨h.sub, h.new, fun k B hB => h.kept k B (hm k B hB), h.os, h.tape, h.output, h.size, fun b hb hg hk => h.block b hb hg fun k s B hρ hB => by
    obtain ⟨B', hB', _⟩ := hM.cell k b s hρ
    have := hm k B' hB'
    rw [hB] at this
    cases this
    exact hk k s B hρ hB', h.newh, h.newg⟩

theorem append_pre (m : Mem) (B : Blk) : ∀ (k : Nat) (C : Blk), m[k]? = some C → (m ++ [B])[k]? = some C := fun k C h => by
  rw [List.getElem?_append_left (List.getElem?_eq_some_iff.1 h).1]; exact h

theorem StepR.exec {Ms : Mem → Prop} {i k : Nat} {o : Oper} {S S' : St} (ho : ops[i]? = some o) (h : StepR Ms P ops o S S' k) (hms : Ms S.mem) {ρ : Ren} {a : Act} {w : World} (hr : ARel ρ S a w)
    {K : Act → World → Prop} {Q : Exit → Act → World → Prop} (hK : ∀ a' w' ρ', ARel ρ' S' a' w' → Mv ρ S.mem w ρ' S'.mem w' → K a' w') : wpOp P ops Q i K a w := by
  unfold wpOp
  rw [ho]
  simp only
  obtain ⟨hg, h⟩ := h
  rw [wanted_rel hr.tmps o hg]
  rcases h with ⟨hw, ht, hm, _⟩ | ⟨hw, v, ht, h⟩
  · rw [hw]
    simp only [Bool.false_eq_true, if_false]
    refine hK _ w ρ ⟨by rw [ht]; exact putL_rel hr.tmps _ VR_undef, ?_, by rw [hm]; exact hr.mem⟩ (by rw [hm]; exact .refl _ _ _)
    cases o.dst <;> exact hr.defers
  · rw [hw]
    simp only [if_true]
    refine .inl ?_
    have hH : ∀ x ∈ o.op.operands, ∀ u, S.eval x = some u → VR ρ u (a.eval x) := fun x _ u hu => ARel.eval hr.tmps hu
    have hd : ∀ u, (a.put o.dst u).defers = ρ.d := fun u => by cases o.dst <;> exact hr.defers
    rcases h with ⟨_, hm, hn⟩ | ⟨_, hm, hn⟩ | ⟨_, B, hm, hn⟩ | ⟨_, hn⟩
    · refine hn S.mem hms S.mem (prefix_self _) ρ a w hH hr.mem (by simp) K Q fun u w' ρ' hu hM hmv _ => ?_
      exact hK _ w' ρ' ⟨by rw [ht]; exact putL_rel (hr.tmps.mono fun _ _ => VR.mono hmv.sub) _ hu, (hd u).trans hmv.sub.d.symm, by rw [hm]; exact hM⟩ (by rw [hm]; exact hmv)
    · refine hn S.mem (prefix_self _) ρ a w hH hr.mem (by simp) K Q fun u w' ρ' hu hM hmv _ => ?_
      exact hK _ w' ρ' ⟨by rw [ht]; exact putL_rel (hr.tmps.mono fun _ _ => VR.mono hmv.sub) _ hu, (hd u).trans hmv.sub.d.symm, by rw [hm]; exact hM⟩ (by rw [hm]; exact hmv)
    · have hpre : ∀ (k : Nat) (C : Blk), S.mem[k]? = some C → S'.mem[k]? = some C := by rw [hm]; exact append_pre _ _
      refine hn S'.mem (prefix_self _) ρ a w hH (hr.mem.ext hpre) (fun j hj => ?_) K Q fun u w' ρ' hu hM hmv _ => ?_
      · cases hj
        cases hρ : ρ S.mem.length with
        | none => rfl
        | some x =>
          obtain ⟨b, s⟩ := x
          obtain ⟨C, hC, _⟩ := hr.mem.cell _ b s hρ
          simp at hC
      · exact hK _ w' ρ' ⟨by rw [ht]; exact putL_rel (hr.tmps.mono fun _ _ => VR.mono hmv.sub) _ hu, (hd u).trans hmv.sub.d.symm, hM⟩ (hmv.ext_left hr.mem hpre)
    · refine hn ρ a w hH hr.mem K Q fun u w' ρ' hu hM hmv => ?_
      exact hK _ w' ρ' ⟨by rw [ht]; exact putL_rel (hr.tmps.mono fun _ _ => VR.mono hmv.sub) _ hu, (hd u).trans hmv.sub.d.symm, hM⟩ hmv

/-- The states that the region's operations pass, in the order of the text. -/
def Trace (P : Program) (ops : Array Oper) (T : Nat → St) (cls : Nat → Nat) : Prop :=
  ∀ i, i < ops.size → ∃ o, ops[i]? = some o ∧ StepR (fun M => ∃ j, j ≤ ops.size ∧ M = (T j).mem) P ops o (T i) (T (i + 1)) (cls i)

theorem wpOps_of_trace {T : Nat → St} {cls : Nat → Nat} (h : Trace P ops T cls) {Q : Exit → Act → World → Prop} : ∀ (m i : Nat), i + m = ops.size → ∀ (ρ : Ren) (a : Act) (w : World), ARel ρ (T i) a w →
    (∀ a' w' ρ', ARel ρ' (T ops.size) a' w' → Mv ρ (T i).mem w ρ' (T ops.size).mem w' → Q .normal a' w') → wpOps P ops Q (List.range' i m) a w
  | 0, i, hi, ρ, a, w, hr, hQ => by
    simp only [Nat.add_zero] at hi
    subst hi
    exact hQ a w ρ hr (.refl _ _ _)
  | m + 1, i, hi, ρ, a, w, hr, hQ => by
    obtain ⟨o, ho, hst⟩ := h i (by omega)
    rw [List.range'_succ, wpOps_cons]
    refine hst.exec ho ⟨i, by omega, rfl⟩ hr fun a1 w1 ρ1 hr1 hm1 => ?_
    exact wpOps_of_trace h m (i + 1) (by omega) ρ1 a1 w1 hr1 fun a2 w2 ρ2 hr2 hm2 => hQ a2 w2 ρ2 hr2 (hm1.trans hr.mem hm2)

/-! ### Drawn orders -/
/-- What the order of a region must keep: each edge leads back; bef is what the edges give; who shares a temporary waits; a writer waits for whoever reads or makes, and they for it. -/
structure Fits (ops : Array Oper) (cls : Nat → Nat) (bef : Nat → Nat → Bool) : Prop where
  edge : ∀ (i : Nat) o, ops[i]? = some o → ∀ e ∈ o.after, Region.binds .any e = true → e.on < i
  via : ∀ (i j : Nat), bef i j = true → ∃ o, ops[j]? = some o ∧ ∃ e ∈ o.after, Region.binds .any e = true ∧ (e.on = i ∨ bef i e.on = true)
  tmps : ∀ (i j : Nat) oi oj, i < j → ops[i]? = some oi → ops[j]? = some oj → bef i j = true ∨ ((∀ d, oi.dst = some d → d ∉ oj.looksAt ops ∧ oj.dst ≠ some d) ∧ ∀ d, oj.dst = some d → d ∉ oi.looksAt ops)
  mems : ∀ (i j : Nat), i < j → j < ops.size → (cls i = 2 ∧ 1 ≤ cls j) ∨ (1 ≤ cls i ∧ cls j = 2) → bef i j = true

variable {T : Nat → St} {cls : Nat → Nat} {bef : Nat → Nat → Bool}

theorem trace_len (h : Trace P ops T cls) : ∀ i, i ≤ ops.size → (T i).tmps.length = (T 0).tmps.length
  | 0, _ => rfl
  | i + 1, hi => by
    obtain ⟨o, ho, hst⟩ := h i (by omega)
    rw [← trace_len h i (by omega)]
    rcases hst.2 with ⟨_, ht, _⟩ | ⟨_, v, ht, _⟩ <;> rw [ht] <;> unfold putL <;> split <;> simp

theorem trace_tmp (h : Trace P ops T cls) (t i : Nat) : ∀ j, i ≤ j → j ≤ ops.size → (∀ k o, i ≤ k → k < j → ops[k]? = some o → o.dst ≠ some t) → (T j).tmps[t]? = (T i).tmps[t]?
  | 0, hi, _, _ => by rw [Nat.le_zero.1 hi]
  | j + 1, hi, hj, hk => by
    by_cases hij : i = j + 1
    · rw [hij]
    · rw [← trace_tmp h t i j (by omega) (by omega) (fun k o h1 h2 => hk k o h1 (by omega))]
      obtain ⟨o, ho, hst⟩ := h j (by omega)
      have hne := hk j o (by omega) (by omega) ho
      have : ∀ v, (putL (T j).tmps o.dst v)[t]? = (T j).tmps[t]? := fun v => by
        unfold putL
        split
        · rename_i d hd
          rw [List.getElem?_set_ne (fun e => hne (by rw [hd, e]))]
        · rfl
      rcases hst.2 with ⟨_, ht, _⟩ | ⟨_, v, ht, _⟩ <;> rw [ht, this]

theorem trace_mem (h : Trace P ops T cls) (i : Nat) : ∀ j, i ≤ j → j ≤ ops.size → (∀ k, i ≤ k → k < j → cls k ≠ 2) → ∀ (k : Nat) (B : Blk), (T i).mem[k]? = some B → (T j).mem[k]? = some B
  | 0, hi, _, _, k, B, hB => by rw [← Nat.le_zero.1 hi]; exact hB
  | j + 1, hi, hj, hk, k, B, hB => by
    by_cases hij : i = j + 1
    · rw [← hij]; exact hB
    · have ih := trace_mem h i j (by omega) (by omega) (fun k h1 h2 => hk k h1 (by omega)) k B hB
      obtain ⟨o, ho, hst⟩ := h j (by omega)
      have hne := hk j (by omega) (by omega)
      rcases hst.2 with ⟨_, _, hm, _⟩ | ⟨_, v, _, ⟨_, hm, _⟩ | ⟨_, hm, _⟩ | ⟨_, C, hm, _⟩ | ⟨h2, _⟩⟩
      · rw [hm]; exact ih
      · rw [hm]; exact ih
      · rw [hm]; exact ih
      · rw [hm]; exact append_pre _ _ _ _ ih
      · exact absurd h2 hne

theorem mem_le_of_pre {m M : Mem} (h : ∀ (k : Nat) (B : Blk), m[k]? = some B → M[k]? = some B) : m.length ≤ M.length := by
  rcases Nat.eq_zero_or_pos m.length with h0 | h0
  · omega
  · have hl : m[m.length - 1]? = some (m[m.length - 1]'(by omega)) := List.getElem?_eq_getElem _
    have := (List.getElem?_eq_some_iff.1 (h _ _ hl)).1
    omega

theorem next_writer (cls : Nat → Nat) (n : Nat) : ∀ (m lo : Nat), lo + m = n → ∃ hi, lo ≤ hi ∧ hi ≤ n ∧ (∀ i, lo ≤ i → i < hi → cls i ≠ 2) ∧ (hi = n ∨ cls hi = 2)
  | 0, lo, h => ⟨lo, Nat.le_refl _, by omega, fun i h1 h2 => by omega, .inl (by omega)⟩
  | m + 1, lo, h => by
    by_cases hc : cls lo = 2
    · exact ⟨lo, Nat.le_refl _, by omega, fun i h1 h2 => by omega, .inr hc⟩
    · obtain ⟨hi, h1, h2, h3, h4⟩ := next_writer cls n m (lo + 1) (by omega)
      refine ⟨hi, by omega, h2, fun i h5 h6 => ?_, h4⟩
      by_cases hi' : i = lo
      · rw [hi']; exact hc
      · exact h3 i (by omega) h6

/-- Where a region stands when some of its operations have been carried out. -/
structure Part (ops : Array Oper) (T : Nat → St) (cls : Nat → Nat) (ρ0 : Ren) (w0 : World) (listed : Array Bool) (a : Act) (w : World) (ρ : Ren) (lo hi : Nat) : Prop where
  size : listed.size = ops.size
  down : ∀ (j : Nat) o, ops[j]? = some o → listed.getD j false = true → ∀ e ∈ o.after, Region.binds .any e = true → listed.getD e.on false = true
  lohi : lo ≤ hi
  hin : hi ≤ ops.size
  before : ∀ i, i < ops.size → 1 ≤ cls i → i < lo → listed.getD i false = true
  behind : ∀ i, i < ops.size → 1 ≤ cls i → hi ≤ i → listed.getD i false = false
  quiet : ∀ i, lo ≤ i → i < hi → cls i ≠ 2
  top : hi = ops.size ∨ cls hi = 2
  mem : MRel ρ (T hi).mem w
  dom : ∀ k x, ρ k = some x → k < (T lo).mem.length ∨ ∃ j, lo ≤ j ∧ j < hi ∧ listed.getD j false = true ∧ (T j).mem.length ≤ k ∧ k < (T (j + 1)).mem.length
  len : a.tmps.toList.length = (T 0).tmps.length
  slot : ∀ t j, j ≤ ops.size → (∀ i o, ops[i]? = some o → o.dst = some t → (i < j ↔ listed.getD i false = true)) → SR ρ (T j).tmps[t]? a.tmps.toList[t]?
  defers : a.defers = ρ.d
  mv : Mv ρ0 (T 0).mem w0 ρ (T hi).mem w

theorem Part.down_bef {ρ0 ρ : Ren} {w0 w : World} {listed : Array Bool} {a : Act} {lo hi : Nat} (hF : Fits ops cls bef) (h : Part ops T cls ρ0 w0 listed a w ρ lo hi) (j : Nat) :
    ∀ i, bef i j = true → (∀ o, ops[j]? = some o → ∀ e ∈ o.after, Region.binds .any e = true → listed.getD e.on false = true) → listed.getD i false = true := by
  induction j using Nat.strongRecOn with
  | _ j ih =>
    intro i hb hall
    obtain ⟨o, ho, e, he, hbind, hor⟩ := hF.via i j hb
    have hl := hall o ho e he hbind
    rcases hor with rfl | hb2
    · exact hl
    · have hlt := hF.edge j o ho e he hbind
      exact ih e.on hlt i hb2 fun o' ho' e' he' hbind' => h.down e.on o' ho' hl e' he' hbind'

theorem getD_set (listed : Array Bool) (i j : Nat) (hi : i < listed.size) : (listed.setIfInBounds i true).getD j false = if i = j then true else listed.getD j false := by
  simp only [Array.getD_eq_getD_getElem?, Array.getElem?_setIfInBounds]
  split
  · rename_i h; subst h; simp
  · rfl

set_option maxHeartbeats 1000000 in
theorem Part.step {ρ0 ρ : Ren} {w0 w : World} {listed : Array Bool} {a : Act} {lo hi : Nat} (hT : Trace P ops T cls) (hF : Fits ops cls bef) (hM0 : MRel ρ0 (T 0).mem w0) (h : Part ops T cls ρ0 w0 listed a w ρ lo hi)
    {i : Nat} (hun : listed.getD i false = false) (hin : i < ops.size) (hpre : ∀ o, ops[i]? = some o → ∀ e ∈ o.after, Region.binds .any e = true → listed.getD e.on false = true)
    {K : Act → World → Prop} {Q : Exit → Act → World → Prop} (hK : ∀ a' w' ρ' lo' hi', Part ops T cls ρ0 w0 (listed.setIfInBounds i true) a' w' ρ' lo' hi' → K a' w') : wpOp P ops Q i K a w := by
  obtain ⟨o, ho, hst⟩ := hT i hin
  have hhin := h.hin
  have hil : i < listed.size := h.size ▸ hin
  -- who comes before i is listed, who comes behind it is not
  have hbef : ∀ j, bef j i = true → listed.getD j false = true := fun j hj => h.down_bef hF i j hj hpre
  have hbeh : ∀ j, bef i j = true → listed.getD j false = false := fun j hj => by
    cases hl : listed.getD j false with
    | false => rfl
    | true =>
      obtain ⟨oj, hoj, _⟩ := hF.via i j hj
      have := h.down_bef hF j i hj fun o' ho' e he hb => h.down j o' ho' hl e he hb
      rw [hun] at this
      cases this
  -- the temporaries that i looks at stand as in the text
  have hslot : ∀ t, (t ∈ o.looksAt ops ∨ o.dst = some t) → ∀ j oj, ops[j]? = some oj → oj.dst = some t → j ≠ i → (j < i ↔ listed.getD j false = true) := by
    intro t ht j oj hoj hd hne
    rcases Nat.lt_or_gt_of_ne hne with hlt | hgt
    · refine ⟨fun _ => ?_, fun _ => hlt⟩
      rcases hF.tmps j i oj o hlt hoj ho with hb | ⟨h1, _⟩
      · exact hbef j hb
      · rcases ht with ht | ht
        · exact absurd ht (h1 t hd).1
        · exact absurd ht (h1 t hd).2
    · refine ⟨fun hl => absurd hl (by omega), fun hl => ?_⟩
      rcases hF.tmps i j o oj hgt ho hoj with hb | ⟨h1, h2⟩
      · rw [hbeh j hb] at hl; cases hl
      · rcases ht with ht | ht
        · exact absurd ht (h2 t hd)
        · exact absurd hd (h1 t ht).2
  have hsr : ∀ t, t ∈ o.looksAt ops → SR ρ (T i).tmps[t]? a.tmps.toList[t]? := fun t ht => by
    refine h.slot t i (by omega) fun j oj hoj hd => ?_
    by_cases hji : j = i
    · subst hji
      constructor
      · intro hlt; omega
      · intro hl; rw [hun] at hl; cases hl
    · exact hslot t (.inl ht) j oj hoj hd hji
  have hw : Region.wanted o (yielded ops a.tmps) = wantedL ops (T i).tmps o := by
    have hgk := hst.1
    unfold wantedL Region.wanted
    unfold guardOk at hgk
    cases hg : o.guard with
    | none => rfl
    | some gw =>
      obtain ⟨g, want⟩ := gw
      rw [hg] at hgk
      simp only at hgk ⊢
      have : yielded ops a.tmps g = yieldedL ops (T i).tmps g := by
        rw [yielded_eq, yieldedL]
        cases hd : (ops[g]?).bind (·.dst) with
        | none => rfl
        | some t =>
          rw [hd] at hgk
          simp only [Option.bind_some] at hgk ⊢
          rw [← Array.getElem?_toList]
          exact (hsr t (List.mem_append_right _ (by simp [hg, hd]))).boolOf hgk
      rw [this]
  have hH : ∀ x ∈ o.op.operands, ∀ u, (T i).eval x = some u → VR ρ u (a.eval x) := by
    intro x hx u hu
    cases x with
    | tmp t =>
      simp only [St.eval, Option.some.injEq] at hu
      subst hu
      have := hsr t (List.mem_append_left _ (List.mem_filterMap.2 ⟨.tmp t, by simpa using hx, rfl⟩))
      simp only [Act.eval, Array.getD_eq_getD_getElem?, List.getD_eq_getElem?_getD]
      rw [← Array.getElem?_toList]
      unfold SR at this
      split at this
      · rename_i e1 e2; rw [e1, e2]; exact this
      · rename_i e1 e2; rw [e1, e2]; exact VR_undef
      · exact this.elim
    | const c =>
      simp only [St.eval] at hu
      split at hu
      · rename_i hf; cases hu; exact (VR_flat hf).2 rfl
      · cases hu
    | global g => cases hu
    | func f => cases hu; exact (VR_flat rfl).2 rfl
  -- what the new temporaries say
  have hnew : ∀ (ρ' : Ren) (v u : Value), ρ.le ρ' → VR ρ' v u → (T (i + 1)).tmps = putL (T i).tmps o.dst v →
      ∀ t j, j ≤ ops.size → (∀ k ok, ops[k]? = some ok → ok.dst = some t → (k < j ↔ (listed.setIfInBounds i true).getD k false = true)) → SR ρ' (T j).tmps[t]? (a.put o.dst u).tmps.toList[t]? := by
    intro ρ' v u hle hvu ht t j hj hcond
    by_cases hd : o.dst = some t
    · have hij : i < j := (hcond i o ho hd).2 (by rw [getD_set _ _ _ hil]; simp)
      have heq : (T j).tmps[t]? = (T (i + 1)).tmps[t]? := by
        refine trace_tmp hT t (i + 1) j (by omega) hj fun k ok h1 h2 hok hdk => ?_
        have hl := (hcond k ok hok hdk).1 h2
        rw [getD_set _ _ _ hil, if_neg (by omega)] at hl
        have := (hslot t (.inr hd) k ok hok hdk (by omega)).2 hl
        omega
      rw [heq, ht, hd]
      simp only [putL, Act.put, Array.toList_setIfInBounds, List.getElem?_set, if_true]
      have hlen : (T i).tmps.length = a.tmps.toList.length := (trace_len hT i (by omega)).trans h.len.symm
      rw [← hlen]
      split
      · exact hvu
      · trivial
    · have h1 : (a.put o.dst u).tmps.toList[t]? = a.tmps.toList[t]? := by
        cases hdd : o.dst with
        | none => rfl
        | some d =>
          simp only [Act.put, Array.toList_setIfInBounds]
          rw [List.getElem?_set_ne (fun e => hd (by rw [hdd, e]))]
      rw [h1]
      refine (h.slot t j hj fun k ok hok hdk => ?_).mono hle
      have hki : i ≠ k := fun e => by
        subst e
        rw [ho] at hok
        cases hok
        exact hd hdk
      rw [hcond k ok hok hdk, getD_set _ _ _ hil, if_neg hki]
  have hlenp : ∀ u, (a.put o.dst u).tmps.toList.length = (T 0).tmps.length := fun u => by rw [← h.len]; cases o.dst <;> simp [Act.put]
  have hdp : ∀ u, (a.put o.dst u).defers = ρ.d := fun u => by cases o.dst <;> exact h.defers
  have hdown : ∀ (j : Nat) oj, ops[j]? = some oj → (listed.setIfInBounds i true).getD j false = true → ∀ e ∈ oj.after, Region.binds .any e = true → (listed.setIfInBounds i true).getD e.on false = true := by
    intro j oj hoj hl e he hb
    rw [getD_set _ _ _ hil] at hl ⊢
    by_cases hij : i = j
    · subst hij; rw [hpre oj hoj e he hb]; simp
    · rw [if_neg hij] at hl; rw [h.down j oj hoj hl e he hb]; simp
  -- whoever asks memory lies in the phase
  have hlo : 1 ≤ cls i → lo ≤ i := fun hc => by
    rcases Nat.lt_or_ge i lo with hlt | hge
    · have := h.before i hin hc hlt
      rw [hun] at this
      cases this
    · exact hge
  have hnot : 1 ≤ cls i → ¬ hi < i := fun hc hlt => by
    have h2 : cls hi = 2 := h.top.resolve_left (by omega)
    have := hbef hi (hF.mems hi i hlt hin (.inl ⟨h2, hc⟩))
    rw [h.behind hi (by omega) (by omega) (Nat.le_refl _)] at this
    cases this
  -- the phase stays
  have stay : ∀ (ρ' : Ren) (v u : Value) (w' : World), cls i ≠ 2 → (1 ≤ cls i → i < hi) → VR ρ' v u → MRel ρ' (T hi).mem w' → Mv ρ (T hi).mem w ρ' (T hi).mem w' → (T (i + 1)).tmps = putL (T i).tmps o.dst v →
      (∀ k x, ρ' k = some x → ρ k = some x ∨ (lo ≤ i ∧ i < hi ∧ (T i).mem.length ≤ k ∧ k < (T (i + 1)).mem.length)) →
      Part ops T cls ρ0 w0 (listed.setIfInBounds i true) (a.put o.dst u) w' ρ' lo hi := by
    intro ρ' v u w' hc2 hchi hvu hM hmv ht hdom
    refine ⟨by simp [h.size], hdown, h.lohi, h.hin, fun k hk hck hkl => ?_, fun k hk hck hkh => ?_, h.quiet, h.top, hM, fun k x hx => ?_, hlenp u, hnew ρ' v u hmv.sub hvu ht, (hdp u).trans hmv.sub.d.symm, h.mv.trans hM0 hmv⟩
    · rw [getD_set _ _ _ hil, h.before k hk hck hkl]; simp
    · rw [getD_set _ _ _ hil, if_neg (fun e => ?_)]
      · exact h.behind k hk hck hkh
      · subst e; have := hchi hck; omega
    · rcases hdom k x hx with h1 | h1
      · rcases h.dom k x h1 with h2 | ⟨j, h2, h3, h4, h5⟩
        · exact .inl h2
        · exact .inr ⟨j, h2, h3, by rw [getD_set _ _ _ hil, h4]; simp, h5⟩
      · exact .inr ⟨i, h1.1, h1.2.1, by rw [getD_set _ _ _ hil]; simp, h1.2.2⟩
  unfold wpOp
  rw [ho]
  simp only
  rw [hw]
  rcases hst.2 with ⟨hwd, ht, hm, hk⟩ | ⟨hwd, v, ht, hst⟩
  · rw [hwd]
    simp only [Bool.false_eq_true, if_false]
    exact hK _ w ρ lo hi (stay ρ undef undef w (by omega) (by omega) VR_undef h.mem (.refl _ _ _) ht fun k x hx => .inl hx)
  · rw [hwd]
    simp only [if_true]
    refine .inl ?_
    rcases hst with ⟨hk, hm, hn⟩ | ⟨hk, hm, hn⟩ | ⟨hk, B, hm, hn⟩ | ⟨hk, hn⟩
    · refine hn (T hi).mem ⟨hi, h.hin, rfl⟩ (T hi).mem (prefix_self _) ρ a w hH h.mem (by simp) K Q fun u w' ρ' hu hM hmv hdom => ?_
      exact hK _ w' ρ' lo hi (stay ρ' v u w' (by omega) (by omega) hu hM hmv ht fun k x hx => .inl ((hdom k x hx).resolve_right (by simp)))
    · have h1 : lo ≤ i := hlo (by omega)
      have h2 : i < hi := by
        rcases Nat.lt_trichotomy i hi with h2 | h2 | h2
        · exact h2
        · subst h2
          rcases h.top with h3 | h3 <;> omega
        · exact absurd h2 (hnot (by omega))
      have hpm : ∀ (k : Nat) (B : Blk), (T i).mem[k]? = some B → (T hi).mem[k]? = some B := trace_mem hT i hi (by omega) h.hin fun k h3 h4 => h.quiet k (by omega) h4
      refine hn (T hi).mem hpm ρ a w hH h.mem (by simp) K Q fun u w' ρ' hu hM hmv hdom => ?_
      exact hK _ w' ρ' lo hi (stay ρ' v u w' (by omega) (fun _ => h2) hu hM hmv ht fun k x hx => .inl ((hdom k x hx).resolve_right (by simp)))
    · have h1 : lo ≤ i := hlo (by omega)
      have h2 : i < hi := by
        rcases Nat.lt_trichotomy i hi with h2 | h2 | h2
        · exact h2
        · subst h2
          rcases h.top with h3 | h3 <;> omega
        · exact absurd h2 (hnot (by omega))
      have hpm : ∀ (k : Nat) (B : Blk), (T (i + 1)).mem[k]? = some B → (T hi).mem[k]? = some B := trace_mem hT (i + 1) hi (by omega) h.hin fun k h3 h4 => h.quiet k (by omega) h4
      have hl1 : (T (i + 1)).mem.length = (T i).mem.length + 1 := by rw [hm]; simp
      refine hn (T hi).mem hpm ρ a w hH h.mem (fun k hk' => ?_) K Q fun u w' ρ' hu hM hmv hdom => ?_
      · cases hk'
        cases hρ : ρ (T i).mem.length with
        | none => rfl
        | some x =>
          exfalso
          rcases h.dom _ x hρ with h3 | ⟨j, h3, h4, h5, h6, h7⟩
          · have := mem_le_of_pre (trace_mem hT lo i h1 (by omega) fun k h3 h4 => h.quiet k h3 (by omega))
            omega
          · rcases Nat.lt_trichotomy j i with h8 | h8 | h8
            · have := mem_le_of_pre (trace_mem hT (j + 1) i (by omega) (by omega) fun k h3 h4 => h.quiet k (by omega) (by omega))
              omega
            · subst h8; rw [hun] at h5; cases h5
            · have := mem_le_of_pre (trace_mem hT (i + 1) j (by omega) (by omega) fun k h3 h4 => h.quiet k (by omega) (by omega))
              omega
      · refine hK _ w' ρ' lo hi (stay ρ' v u w' (by omega) (fun _ => h2) hu hM hmv ht fun k x hx => ?_)
        rcases hdom k x hx with h3 | h3
        · exact .inl h3
        · cases h3
          exact .inr ⟨h1, h2, Nat.le_refl _, by omega⟩
    · have h1 : lo ≤ i := hlo (by omega)
      have h2 : i = hi := by
        rcases Nat.lt_trichotomy i hi with h2 | h2 | h2
        · exact absurd hk (h.quiet i h1 h2)
        · exact h2
        · exact absurd h2 (hnot (by omega))
      subst h2
      obtain ⟨hi', g1, g2, g3, g4⟩ := next_writer cls ops.size (ops.size - (i + 1)) (i + 1) (by omega)
      have hpm : ∀ (k : Nat) (B : Blk), (T (i + 1)).mem[k]? = some B → (T hi').mem[k]? = some B := trace_mem hT (i + 1) hi' g1 g2 g3
      refine hn ρ a w hH h.mem K Q fun u w' ρ' hu hM hmv => ?_
      refine hK _ w' ρ' (i + 1) hi' ⟨by simp [h.size], hdown, g1, g2, fun k hk hck hkl => ?_, fun k hk hck hkh => ?_, g3, g4, hM.ext hpm, fun k x hx => ?_, hlenp u, hnew ρ' v u hmv.sub hu ht, (hdp u).trans hmv.sub.d.symm, (h.mv.trans hM0 hmv).ext_right hpm⟩
      · rw [getD_set _ _ _ hil]
        by_cases hki : i = k
        · simp [hki]
        · rw [if_neg hki]
          rcases Nat.lt_or_ge k lo with h3 | h3
          · exact h.before k hk hck h3
          · exact hbef k (hF.mems k i (by omega) hin (.inr ⟨hck, by assumption⟩))
      · rw [getD_set _ _ _ hil, if_neg (by omega)]
        exact h.behind k hk hck (by omega)
      · obtain ⟨b, s⟩ := x
        obtain ⟨C, hC, _⟩ := hM.cell k b s hx
        exact .inl (List.getElem?_eq_some_iff.1 hC).1


theorem count_set (listed : Array Bool) (n i : Nat) (hl : listed.size = n) (hi : i < n) (hun : listed.getD i false = false) :
    ((List.range n).filter fun j => !(listed.setIfInBounds i true).getD j false).length < ((List.range n).filter fun j => !listed.getD j false).length := by
  have h1 : ∀ l : List Nat, (l.filter fun j => !(listed.setIfInBounds i true).getD j false).length ≤ (l.filter fun j => !listed.getD j false).length ∧
      (i ∈ l → (l.filter fun j => !(listed.setIfInBounds i true).getD j false).length < (l.filter fun j => !listed.getD j false).length) := by
    intro l
    induction l with
    | nil => simp
    | cons x l ih =>
      by_cases hx : i = x
      · subst hx
        have e1 : (listed.setIfInBounds i true).getD i false = true := by rw [getD_set _ _ _ (hl ▸ hi)]; simp
        simp only [List.filter_cons, e1, hun, Bool.not_true, Bool.not_false, Bool.false_eq_true, if_false, if_true, List.length_cons]
        exact ⟨by omega, fun _ => by omega⟩
      · have e1 : (listed.setIfInBounds i true).getD x false = listed.getD x false := by rw [getD_set _ _ _ (hl ▸ hi), if_neg hx]
        simp only [List.filter_cons, e1]
        refine ⟨?_, fun hm => ?_⟩
        · split <;> (try simp only [List.length_cons]) <;> omega
        · have := ih.2 ((List.mem_cons.1 hm).resolve_left hx)
          split <;> (try simp only [List.length_cons]) <;> omega
  exact (h1 _).2 (List.mem_range.2 hi)

theorem getD_false_true {listed : Array Bool} {j : Nat} (hj : j < listed.size) : listed.getD j true = listed.getD j false := by
  simp [Array.getD_eq_getD_getElem?, Array.getElem?_eq_getElem hj]

theorem Part.any {ρ0 : Ren} {w0 : World} (hT : Trace P ops T cls) (hF : Fits ops cls bef) (hM0 : MRel ρ0 (T 0).mem w0) {Q : Exit → Act → World → Prop}
    (hQ : ∀ a w ρ, ARel ρ (T ops.size) a w → Mv ρ0 (T 0).mem w0 ρ (T ops.size).mem w → Q .normal a w) :
    ∀ (fuel : Nat) (listed : Array Bool) (a : Act) (w : World) (ρ : Ren) (lo hi : Nat), ((List.range ops.size).filter fun j => !listed.getD j false).length ≤ fuel → Part ops T cls ρ0 w0 listed a w ρ lo hi →
      wpAny P .any ops Q fuel listed a w := by
  -- all have come up: the state is the text's last
  have done : ∀ (listed : Array Bool) (a : Act) (w : World) (ρ : Ren) (lo hi : Nat), (∀ j, j < ops.size → listed.getD j false = true) → Part ops T cls ρ0 w0 listed a w ρ lo hi → Q .normal a w := by
    intro listed a w ρ lo hi hall h
    have hhi : hi = ops.size := by
      rcases h.top with h1 | h1
      · exact h1
      · rcases Nat.lt_or_ge hi ops.size with h2 | h2
        · have := h.behind hi h2 (by omega) (Nat.le_refl _)
          rw [hall hi h2] at this
          cases this
        · have := h.hin; omega
    subst hhi
    refine hQ a w ρ ⟨⟨?_, fun t v u hv hu => ?_⟩, h.defers, h.mem⟩ h.mv
    · rw [h.len, trace_len hT _ (Nat.le_refl _)]
    · have := h.slot t ops.size (Nat.le_refl _) fun i o ho _ => by
        have hi := (Array.getElem?_eq_some_iff.1 ho).1
        exact ⟨fun _ => hall i hi, fun _ => hi⟩
      rw [hv, hu] at this
      exact this
  -- somebody who has not come up may come up
  have some_ready : ∀ (listed : Array Bool), listed.size = ops.size → Region.ready .any ops listed = [] → ∀ j, j < ops.size → listed.getD j false = true := by
    intro listed hsz hr j
    induction j using Nat.strongRecOn with
    | _ j ih =>
      intro hj
      cases hl : listed.getD j false with
      | true => rfl
      | false =>
        exfalso
        have ho : ops[j]? = some ops[j] := Array.getElem?_eq_getElem hj
        have : j ∈ Region.ready .any ops listed := mem_ready.2 ⟨by rw [getD_false_true (hsz ▸ hj)]; exact hl, _, ho, fun e he hb => by
          have hlt := hF.edge j _ ho e he hb
          exact ih e.on hlt (by omega)⟩
        rw [hr] at this
        cases this
  intro fuel
  induction fuel with
  | zero =>
    intro listed a w ρ lo hi hf h
    have hall : ∀ j, j < ops.size → listed.getD j false = true := fun j hj => by
      cases hl : listed.getD j false with
      | true => rfl
      | false =>
        have : j ∈ (List.range ops.size).filter fun j => !listed.getD j false := List.mem_filter.2 ⟨List.mem_range.2 hj, by rw [hl]; rfl⟩
        have := List.length_pos_of_mem this
        omega
    refine ⟨?_, done listed a w ρ lo hi hall h⟩
    rw [List.eq_nil_iff_forall_not_mem]
    intro j hj
    obtain ⟨h0, o, ho, _⟩ := mem_ready.1 hj
    have hjl := (Array.getElem?_eq_some_iff.1 ho).1
    rw [getD_false_true (h.size ▸ hjl), hall j hjl] at h0
    cases h0
  | succ fuel ih =>
    intro listed a w ρ lo hi hf h
    refine ⟨fun hr => done listed a w ρ lo hi (some_ready listed h.size hr) h, fun i hi' => ?_⟩
    obtain ⟨h0, o, ho, hall⟩ := mem_ready.1 hi'
    have hil := (Array.getElem?_eq_some_iff.1 ho).1
    rw [getD_false_true (h.size ▸ hil)] at h0
    refine h.step hT hF hM0 h0 hil (fun o' ho' e he hb => ?_) fun a' w' ρ' lo' hi'' h' => ?_
    · rw [ho] at ho'; cases ho'; exact hall e he hb
    · exact ih _ a' w' ρ' lo' hi'' (by have := count_set listed ops.size i h.size hil h0; omega) h'

/-- A REGION, IN WHATEVER ORDER. -/
theorem region_of_trace (hm : P.follows .mixedOrders = true) {id : Nat} {draw : Bool} (hT : Trace P ops T cls) (hF : draw = true → ∃ bef, Fits ops cls bef) {Q : Exit → St → Prop} (hQ : Q .normal (T ops.size)) :
    Tri P (.region id ops draw) (T 0) Q := by
  intro ρ a w hr
  cases draw with
  | false =>
    refine wp_region ?_
    rw [List.range_eq_range']
    exact wpOps_of_trace hT ops.size 0 (by omega) ρ a w hr fun a' w' ρ' hr' hm' => ⟨_, ρ', hQ, hr', hm'⟩
  | true =>
    obtain ⟨bef, hF⟩ := hF rfl
    refine wp_region_any hm ?_
    obtain ⟨hi, h1, h2, h3, h4⟩ := next_writer cls ops.size ops.size 0 (by omega)
    have hpm : ∀ (k : Nat) (B : Blk), (T 0).mem[k]? = some B → (T hi).mem[k]? = some B := trace_mem hT 0 hi h1 h2 h3
    have hM0 : MRel ρ (T 0).mem { w with drawn := w.drawn + 1 } := ⟨hr.mem.cell, hr.mem.apart, hr.mem.froz, hr.mem.lists.heap (Nat.le_refl _) fun _ _ _ => rfl⟩
    have hfalse : ∀ j, (Array.replicate ops.size false).getD j false = false := fun j => by
      simp only [Array.getD_eq_getD_getElem?, Array.getElem?_replicate]
      split <;> rfl
    refine Part.any hT hF hM0 (fun a' w' ρ' hr' hm' => ⟨_, ρ', hQ, hr', ⟨hm'.sub, hm'.new, hm'.kept, hm'.os, hm'.tape, hm'.output, hm'.size, hm'.block, hm'.newh, hm'.newg⟩⟩) ops.size _ a _ ρ 0 hi ?_ ⟨by simp, fun j o ho hl => ?_, h1, h2, fun i _ _ hlt => by omega, fun i _ _ _ => hfalse i, h3, h4, hM0.ext hpm, fun k x hx => ?_, hr.tmps.1.symm, fun t j hj hc => ?_, hr.defers, (Mv.refl _ _ _).ext_right hpm⟩
    · exact Nat.le_trans (List.length_filter_le _ _) (by simp)
    · rw [hfalse] at hl; cases hl
    · obtain ⟨b, s⟩ := x
      obtain ⟨C, hC, _⟩ := hr.mem.cell k b s hx
      exact .inl (List.getElem?_eq_some_iff.1 hC).1
    · rw [trace_tmp hT t 0 j (by omega) hj fun k o _ hk ho hd => by have := (hc k o ho hd).1 hk; rw [hfalse] at this; cases this]
      exact hr.tmps.sr t

end
end Go.Ev
/-! Relative states, part Gb: regions in whatever order where what is written is told apart block by block. -/
namespace Go.Ev
section
variable {P : Program} {ops : Array Oper}

/-- Do two operations of these codes wait for one another? -/
def clash (a b : Nat) : Bool :=
  match decide (a = 0) || decide (b = 0) with
  | true => false
  | false => match decide (a = 2) || decide (b = 2) with
    | true => true
    | false => match decide (a = 1) with
      | true => decide (b % 3 = 1)
      | false => match decide (b = 1) with
        | true => decide (a % 3 = 1)
        | false => decide ((a - 3) / 3 = (b - 3) / 3) && (decide (a % 3 = 1) || decide (b % 3 = 1))
theorem clash_write_make (k : Nat) : clash (3 * k + 4) (3 * k + 5) = true ∧ clash (3 * k + 5) (3 * k + 4) = true := by
  constructor <;> unfold clash <;> simp <;> omega
theorem clash_write_read1 (k : Nat) : clash (3 * k + 4) 1 = true ∧ clash 1 (3 * k + 4) = true := by
  constructor <;> unfold clash <;> simp <;> omega
theorem clash_write_read (k : Nat) : clash (3 * k + 4) (3 * k + 3) = true ∧ clash (3 * k + 3) (3 * k + 4) = true := by
  constructor <;> unfold clash <;> simp <;> omega
theorem clash_writes (k : Nat) : clash (3 * k + 4) (3 * k + 4) = true := by
  unfold clash
  simp

def MemG (P : Program) (mem : Mem) (E : Operand → Option Value) (o : Oper) (v : Value) (mem' : Mem) (c : Nat) : Prop :=
  (c = 0 ∧ mem' = mem ∧ NonW P o E v [] none) ∨ (c = 1 ∧ mem' = mem ∧ NonW P o E v mem none) ∨ (c = 3 * mem.length + 5 ∧ ∃ B, mem' = mem ++ [B] ∧ ∀ M : Mem, M[mem.length]? = some B → NonW P o E v M (some mem.length)) ∨
  (∃ k, c = 3 * k + 3 ∧ mem' = mem ∧ k < mem.length ∧ ∀ M : Mem, M[k]? = mem[k]? → NonW P o E v M none) ∨
  (∃ k B, c = 3 * k + 4 ∧ mem' = mem.set k B ∧ k < mem.length ∧ ∀ M : Mem, M[k]? = mem[k]? → WrS P o E v M (M.set k B))
def StepG (P : Program) (ops : Array Oper) (o : Oper) (S S' : St) (c : Nat) : Prop :=
  guardOk ops S.tmps o = true ∧ ((wantedL ops S.tmps o = false ∧ S'.tmps = putL S.tmps o.dst undef ∧ S'.mem = S.mem ∧ c = 0) ∨
  (wantedL ops S.tmps o = true ∧ ∃ v, S'.tmps = putL S.tmps o.dst v ∧ MemG P S.mem S.eval o v S'.mem c))
def TraceG (P : Program) (ops : Array Oper) (T : Nat → St) (cls : Nat → Nat) : Prop :=
  ∀ i, i < ops.size → ∃ o, ops[i]? = some o ∧ StepG P ops o (T i) (T (i + 1)) (cls i)
structure FitsG (ops : Array Oper) (cls : Nat → Nat) (bef : Nat → Nat → Bool) : Prop where
  edge : ∀ (i : Nat) o, ops[i]? = some o → ∀ e ∈ o.after, Region.binds .any e = true → e.on < i
  via : ∀ (i j : Nat), bef i j = true → ∃ o, ops[j]? = some o ∧ ∃ e ∈ o.after, Region.binds .any e = true ∧ (e.on = i ∨ bef i e.on = true)
  tmps : ∀ (i j : Nat) oi oj, i < j → ops[i]? = some oi → ops[j]? = some oj → bef i j = true ∨ ((∀ d, oi.dst = some d → d ∉ oj.looksAt ops ∧ oj.dst ≠ some d) ∧ ∀ d, oj.dst = some d → d ∉ oi.looksAt ops)
  mems : ∀ (i j : Nat), i < j → j < ops.size → clash (cls i) (cls j) = true → bef i j = true

variable {T : Nat → St} {cls : Nat → Nat} {bef : Nat → Nat → Bool}

theorem traceG_tmps (h : TraceG P ops T cls) {i : Nat} (hi : i < ops.size) : ∃ o v, ops[i]? = some o ∧ (T (i + 1)).tmps = putL (T i).tmps o.dst v := by
  obtain ⟨o, ho, hst⟩ := h i hi
  rcases hst.2 with ⟨_, ht, _⟩ | ⟨_, v, ht, _⟩
  · exact ⟨o, _, ho, ht⟩
  · exact ⟨o, v, ho, ht⟩
theorem traceG_len (h : TraceG P ops T cls) : ∀ i, i ≤ ops.size → (T i).tmps.length = (T 0).tmps.length
  | 0, _ => rfl
  | i + 1, hi => by
    obtain ⟨o, v, ho, ht⟩ := traceG_tmps h (show i < ops.size by omega)
    rw [← traceG_len h i (by omega), ht]
    unfold putL
    split <;> simp
theorem traceG_tmp (h : TraceG P ops T cls) (t i : Nat) : ∀ j, i ≤ j → j ≤ ops.size → (∀ k o, i ≤ k → k < j → ops[k]? = some o → o.dst ≠ some t) → (T j).tmps[t]? = (T i).tmps[t]?
  | 0, hi, _, _ => by rw [Nat.le_zero.1 hi]
  | j + 1, hi, hj, hk => by
    by_cases hij : i = j + 1
    · rw [hij]
    · rw [← traceG_tmp h t i j (by omega) (by omega) (fun k o h1 h2 => hk k o h1 (by omega))]
      obtain ⟨o, v, ho, ht⟩ := traceG_tmps h (show j < ops.size by omega)
      have hne := hk j o (by omega) (by omega) ho
      rw [ht]
      unfold putL
      split
      · rename_i d hd
        rw [List.getElem?_set_ne (fun e => hne (by rw [hd, e]))]
      · rfl
/-- What an operation does to memory. -/
theorem traceG_mem1 (h : TraceG P ops T cls) {i : Nat} (hi : i < ops.size) :
    ((T (i + 1)).mem = (T i).mem ∧ ∀ k, cls i ≠ 3 * k + 4) ∨ (cls i = 3 * (T i).mem.length + 5 ∧ ∃ B, (T (i + 1)).mem = (T i).mem ++ [B]) ∨ ∃ k B, cls i = 3 * k + 4 ∧ k < (T i).mem.length ∧ (T (i + 1)).mem = (T i).mem.set k B := by
  obtain ⟨o, ho, hst⟩ := h i hi
  rcases hst.2 with ⟨_, _, hm, hc⟩ | ⟨_, v, _, hs⟩
  · exact .inl ⟨hm, fun k => by omega⟩
  · rcases hs with ⟨hc, hm, _⟩ | ⟨hc, hm, _⟩ | ⟨hc, B, hm, _⟩ | ⟨k, hc, hm, _⟩ | ⟨k, B, hc, hm, hk, _⟩
    · exact .inl ⟨hm, fun k => by omega⟩
    · exact .inl ⟨hm, fun k => by omega⟩
    · exact .inr (.inl ⟨hc, B, hm⟩)
    · exact .inl ⟨hm, fun k => by omega⟩
    · exact .inr (.inr ⟨k, B, hc, hk, hm⟩)
theorem traceG_le (h : TraceG P ops T cls) (i : Nat) : ∀ j, i ≤ j → j ≤ ops.size → (T i).mem.length ≤ (T j).mem.length
  | 0, hi, _ => by rw [Nat.le_zero.1 hi]; exact Nat.le_refl _
  | j + 1, hi, hj => by
    by_cases hij : i = j + 1
    · rw [hij]; exact Nat.le_refl _
    · refine Nat.le_trans (traceG_le h i j (by omega) (by omega)) ?_
      rcases traceG_mem1 h (show j < ops.size by omega) with ⟨hm, _⟩ | ⟨_, B, hm⟩ | ⟨k, B, _, _, hm⟩ <;> rw [hm] <;> simp
/-- A block that nobody writes between stays. -/
theorem traceG_cell (h : TraceG P ops T cls) {k i : Nat} (hk : k < (T i).mem.length) : ∀ j, i ≤ j → j ≤ ops.size → (∀ l, i ≤ l → l < j → cls l ≠ 3 * k + 4) → (T j).mem[k]? = (T i).mem[k]?
  | 0, hi, _, _ => by rw [Nat.le_zero.1 hi]
  | j + 1, hi, hj, hn => by
    by_cases hij : i = j + 1
    · rw [hij]
    · rw [← traceG_cell h hk j (by omega) (by omega) (fun l h1 h2 => hn l h1 (by omega))]
      have hkj : k < (T j).mem.length := Nat.lt_of_lt_of_le hk (traceG_le h i j (by omega) (by omega))
      rcases traceG_mem1 h (show j < ops.size by omega) with ⟨hm, _⟩ | ⟨_, B, hm⟩ | ⟨k', B, hc, _, hm⟩
      · rw [hm]
      · rw [hm, List.getElem?_append_left hkj]
      · rw [hm, List.getElem?_set_ne (fun e => hn j (by omega) (by omega) (by rw [hc, e]))]

/-- The memory with every block that will be made, as it is before anything is written. -/
theorem traceG_first (h : TraceG P ops T cls) : ∀ j, j ≤ ops.size → ∃ M : Mem, M.length = (T j).mem.length ∧
    ∀ k j', j' ≤ j → k < (T j').mem.length → (∀ l, l < j' → cls l ≠ 3 * k + 4) → M[k]? = (T j').mem[k]?
  | 0, _ => ⟨(T 0).mem, rfl, fun k j' hj' _ _ => by rw [Nat.le_zero.1 hj']⟩
  | j + 1, hj => by
    obtain ⟨M, hl, hM⟩ := traceG_first h j (by omega)
    have hj' : j < ops.size := by omega
    rcases traceG_mem1 h hj' with ⟨hm, hc⟩ | ⟨hc, B, hm⟩ | ⟨k0, B, hc, hk0, hm⟩
    · refine ⟨M, by rw [hm]; exact hl, fun k j' h1 h2 h3 => ?_⟩
      rcases Nat.lt_or_ge j' (j + 1) with h4 | h4
      · exact hM k j' (by omega) h2 h3
      · have e : j' = j + 1 := by omega
        subst e
        rw [hm] at h2 ⊢
        exact hM k j (Nat.le_refl _) h2 fun l hl => h3 l (by omega)
    · refine ⟨M ++ [B], by rw [hm]; simp [hl], fun k j' h1 h2 h3 => ?_⟩
      rcases Nat.lt_or_ge j' (j + 1) with h4 | h4
      · have hkM : k < M.length := by rw [hl]; exact Nat.lt_of_lt_of_le h2 (traceG_le h j' j (by omega) (by omega))
        rw [List.getElem?_append_left hkM]
        exact hM k j' (by omega) h2 h3
      · have e : j' = j + 1 := by omega
        subst e
        rw [hm] at h2 ⊢
        rcases Nat.lt_or_ge k (T j).mem.length with h5 | h5
        · rw [List.getElem?_append_left h5, List.getElem?_append_left (by omega)]
          exact hM k j (Nat.le_refl _) h5 fun l hl => h3 l (by omega)
        · simp only [List.length_append, List.length_cons, List.length_nil] at h2
          have e : k = (T j).mem.length := by omega
          subst e
          rw [List.getElem?_append_right (Nat.le_refl _), List.getElem?_append_right (by omega), hl]
    · refine ⟨M, by rw [hm]; simp [hl], fun k j' h1 h2 h3 => ?_⟩
      rcases Nat.lt_or_ge j' (j + 1) with h4 | h4
      · exact hM k j' (by omega) h2 h3
      · have e : j' = j + 1 := by omega
        subst e
        rw [hm, List.getElem?_set_ne (fun e => h3 j (by omega) (by rw [hc, e]))]
        rw [hm, List.length_set] at h2
        exact hM k j (Nat.le_refl _) h2 fun l hl => h3 l (by omega)

/-- Where a region stands when some of its operations have been carried out. -/
structure PartG (ops : Array Oper) (T : Nat → St) (cls : Nat → Nat) (ρ0 : Ren) (w0 : World) (listed : Array Bool) (a : Act) (w : World) (ρ : Ren) (M : Mem) : Prop where
  size : listed.size = ops.size
  down : ∀ (j : Nat) o, ops[j]? = some o → listed.getD j false = true → ∀ e ∈ o.after, Region.binds .any e = true → listed.getD e.on false = true
  total : M.length = (T ops.size).mem.length
  cont : ∀ k j, j ≤ ops.size → k < (T j).mem.length → (∀ l, l < ops.size → cls l = 3 * k + 4 → (l < j ↔ listed.getD l false = true)) → M[k]? = (T j).mem[k]?
  mem : MRel ρ M w
  dom : ∀ k x, ρ k = some x → k < (T 0).mem.length ∨ ∃ j, j < ops.size ∧ listed.getD j false = true ∧ (T j).mem.length ≤ k ∧ k < (T (j + 1)).mem.length
  len : a.tmps.toList.length = (T 0).tmps.length
  slot : ∀ t j, j ≤ ops.size → (∀ i o, ops[i]? = some o → o.dst = some t → (i < j ↔ listed.getD i false = true)) → SR ρ (T j).tmps[t]? a.tmps.toList[t]?
  defers : a.defers = ρ.d
  mv : Mv ρ0 (T 0).mem w0 ρ M w

theorem PartG.down_bef {ρ0 ρ : Ren} {w0 w : World} {listed : Array Bool} {a : Act} {M : Mem} (hF : FitsG ops cls bef) (h : PartG ops T cls ρ0 w0 listed a w ρ M) (j : Nat) :
    ∀ i, bef i j = true → (∀ o, ops[j]? = some o → ∀ e ∈ o.after, Region.binds .any e = true → listed.getD e.on false = true) → listed.getD i false = true := by
  induction j using Nat.strongRecOn with
  | _ j ih =>
    intro i hb hall
    obtain ⟨o, ho, e, he, hbind, hor⟩ := hF.via i j hb
    have hl := hall o ho e he hbind
    rcases hor with rfl | hb2
    · exact hl
    · have hlt := hF.edge j o ho e he hbind
      exact ih e.on hlt i hb2 fun o' ho' e' he' hbind' => h.down e.on o' ho' hl e' he' hbind'

set_option maxHeartbeats 1000000 in
theorem PartG.step {ρ0 ρ : Ren} {w0 w : World} {listed : Array Bool} {a : Act} {M : Mem} (hT : TraceG P ops T cls) (hF : FitsG ops cls bef) (hM0 : MRel ρ0 (T 0).mem w0) (h : PartG ops T cls ρ0 w0 listed a w ρ M)
    {i : Nat} (hun : listed.getD i false = false) (hin : i < ops.size) (hpre : ∀ o, ops[i]? = some o → ∀ e ∈ o.after, Region.binds .any e = true → listed.getD e.on false = true)
    {K : Act → World → Prop} {Q : Exit → Act → World → Prop} (hK : ∀ a' w' ρ' M', PartG ops T cls ρ0 w0 (listed.setIfInBounds i true) a' w' ρ' M' → K a' w') : wpOp P ops Q i K a w := by
  obtain ⟨o, ho, hst⟩ := hT i hin
  have hil : i < listed.size := h.size ▸ hin
  have hbef : ∀ j, bef j i = true → listed.getD j false = true := fun j hj => h.down_bef hF i j hj hpre
  have hbeh : ∀ j, bef i j = true → listed.getD j false = false := fun j hj => by
    cases hl : listed.getD j false with
    | false => rfl
    | true =>
      obtain ⟨oj, hoj, _⟩ := hF.via i j hj
      have := h.down_bef hF j i hj fun o' ho' e he hb => h.down j o' ho' hl e he hb
      rw [hun] at this
      cases this
  have hslot : ∀ t, (t ∈ o.looksAt ops ∨ o.dst = some t) → ∀ j oj, ops[j]? = some oj → oj.dst = some t → j ≠ i → (j < i ↔ listed.getD j false = true) := by
    intro t ht j oj hoj hd hne
    rcases Nat.lt_or_gt_of_ne hne with hlt | hgt
    · refine ⟨fun _ => ?_, fun _ => hlt⟩
      rcases hF.tmps j i oj o hlt hoj ho with hb | ⟨h1, _⟩
      · exact hbef j hb
      · rcases ht with ht | ht
        · exact absurd ht (h1 t hd).1
        · exact absurd ht (h1 t hd).2
    · refine ⟨fun hl => absurd hl (by omega), fun hl => ?_⟩
      rcases hF.tmps i j o oj hgt ho hoj with hb | ⟨h1, h2⟩
      · rw [hbeh j hb] at hl; cases hl
      · rcases ht with ht | ht
        · exact absurd ht (h2 t hd)
        · exact absurd hd (h1 t ht).2
  have hsr : ∀ t, t ∈ o.looksAt ops → SR ρ (T i).tmps[t]? a.tmps.toList[t]? := fun t ht => by
    refine h.slot t i (by omega) fun j oj hoj hd => ?_
    by_cases hji : j = i
    · subst hji
      constructor
      · intro hlt; omega
      · intro hl; rw [hun] at hl; cases hl
    · exact hslot t (.inl ht) j oj hoj hd hji
  have hw : Region.wanted o (yielded ops a.tmps) = wantedL ops (T i).tmps o := by
    have hgk := hst.1
    unfold wantedL Region.wanted
    unfold guardOk at hgk
    cases hg : o.guard with
    | none => rfl
    | some gw =>
      obtain ⟨g, want⟩ := gw
      rw [hg] at hgk
      simp only at hgk ⊢
      have : yielded ops a.tmps g = yieldedL ops (T i).tmps g := by
        rw [yielded_eq, yieldedL]
        cases hd : (ops[g]?).bind (·.dst) with
        | none => rfl
        | some t =>
          rw [hd] at hgk
          simp only [Option.bind_some] at hgk ⊢
          rw [← Array.getElem?_toList]
          exact (hsr t (List.mem_append_right _ (by simp [hg, hd]))).boolOf hgk
      rw [this]
  have hH : ∀ x ∈ o.op.operands, ∀ u, (T i).eval x = some u → VR ρ u (a.eval x) := by
    intro x hx u hu
    cases x with
    | tmp t =>
      simp only [St.eval, Option.some.injEq] at hu
      subst hu
      have := hsr t (List.mem_append_left _ (List.mem_filterMap.2 ⟨.tmp t, by simpa using hx, rfl⟩))
      simp only [Act.eval, Array.getD_eq_getD_getElem?, List.getD_eq_getElem?_getD]
      rw [← Array.getElem?_toList]
      unfold SR at this
      split at this
      · rename_i e1 e2; rw [e1, e2]; exact this
      · rename_i e1 e2; rw [e1, e2]; exact VR_undef
      · exact this.elim
    | const c =>
      simp only [St.eval] at hu
      split at hu
      · rename_i hf; cases hu; exact (VR_flat hf).2 rfl
      · cases hu
    | global g => cases hu
    | func f => cases hu; exact (VR_flat rfl).2 rfl
  have hnew : ∀ (ρ' : Ren) (v u : Value), ρ.le ρ' → VR ρ' v u → (T (i + 1)).tmps = putL (T i).tmps o.dst v →
      ∀ t j, j ≤ ops.size → (∀ k ok, ops[k]? = some ok → ok.dst = some t → (k < j ↔ (listed.setIfInBounds i true).getD k false = true)) → SR ρ' (T j).tmps[t]? (a.put o.dst u).tmps.toList[t]? := by
    intro ρ' v u hle hvu ht t j hj hcond
    by_cases hd : o.dst = some t
    · have hij : i < j := (hcond i o ho hd).2 (by rw [getD_set _ _ _ hil]; simp)
      have heq : (T j).tmps[t]? = (T (i + 1)).tmps[t]? := by
        refine traceG_tmp hT t (i + 1) j (by omega) hj fun k ok h1 h2 hok hdk => ?_
        have hl := (hcond k ok hok hdk).1 h2
        rw [getD_set _ _ _ hil, if_neg (by omega)] at hl
        have := (hslot t (.inr hd) k ok hok hdk (by omega)).2 hl
        omega
      rw [heq, ht, hd]
      simp only [putL, Act.put, Array.toList_setIfInBounds, List.getElem?_set, if_true]
      have hlen : (T i).tmps.length = a.tmps.toList.length := (traceG_len hT i (by omega)).trans h.len.symm
      rw [← hlen]
      split
      · exact hvu
      · trivial
    · have h1 : (a.put o.dst u).tmps.toList[t]? = a.tmps.toList[t]? := by
        cases hdd : o.dst with
        | none => rfl
        | some d =>
          simp only [Act.put, Array.toList_setIfInBounds]
          rw [List.getElem?_set_ne (fun e => hd (by rw [hdd, e]))]
      rw [h1]
      refine (h.slot t j hj fun k ok hok hdk => ?_).mono hle
      have hki : i ≠ k := fun e => by
        subst e
        rw [ho] at hok
        cases hok
        exact hd hdk
      rw [hcond k ok hok hdk, getD_set _ _ _ hil, if_neg hki]
  have hlenp : ∀ u, (a.put o.dst u).tmps.toList.length = (T 0).tmps.length := fun u => by rw [← h.len]; cases o.dst <;> simp [Act.put]
  have hdp : ∀ u, (a.put o.dst u).defers = ρ.d := fun u => by cases o.dst <;> exact h.defers
  have hdown : ∀ (j : Nat) oj, ops[j]? = some oj → (listed.setIfInBounds i true).getD j false = true → ∀ e ∈ oj.after, Region.binds .any e = true → (listed.setIfInBounds i true).getD e.on false = true := by
    intro j oj hoj hl e he hb
    rw [getD_set _ _ _ hil] at hl ⊢
    by_cases hij : i = j
    · subst hij; rw [hpre oj hoj e he hb]; simp
    · rw [if_neg hij] at hl; rw [h.down j oj hoj hl e he hb]; simp
  -- the order of those that clash with i
  have hclash : ∀ l, l < ops.size → l ≠ i → clash (cls l) (cls i) = true → clash (cls i) (cls l) = true → (l < i ↔ listed.getD l false = true) := by
    intro l hl hne h1 h2
    rcases Nat.lt_or_gt_of_ne hne with hlt | hgt
    · exact ⟨fun _ => hbef l (hF.mems l i hlt hin h1), fun _ => hlt⟩
    · refine ⟨fun hh => absurd hh (by omega), fun hh => ?_⟩
      rw [hbeh l (hF.mems i l hgt hl h2)] at hh
      cases hh
  have hdomOld : ∀ k, (∃ j, j < ops.size ∧ listed.getD j false = true ∧ (T j).mem.length ≤ k ∧ k < (T (j + 1)).mem.length) →
      ∃ j, j < ops.size ∧ (listed.setIfInBounds i true).getD j false = true ∧ (T j).mem.length ≤ k ∧ k < (T (j + 1)).mem.length := by
    rintro k ⟨j, h1, h2, h3⟩
    exact ⟨j, h1, by rw [getD_set _ _ _ hil, h2]; simp, h3⟩
  -- who writes nothing leaves M as it is
  have stay : ∀ (ρ' : Ren) (v u : Value) (w' : World), (∀ k, cls i ≠ 3 * k + 4) → VR ρ' v u → MRel ρ' M w' → Mv ρ M w ρ' M w' → (T (i + 1)).tmps = putL (T i).tmps o.dst v →
      (∀ k x, ρ' k = some x → ρ k = some x ∨ ((T i).mem.length ≤ k ∧ k < (T (i + 1)).mem.length)) →
      PartG ops T cls ρ0 w0 (listed.setIfInBounds i true) (a.put o.dst u) w' ρ' M := by
    intro ρ' v u w' hc hvu hM hmv ht hdom
    refine ⟨by simp [h.size], hdown, h.total, fun k j hj hk hl => h.cont k j hj hk fun l hls hlc => ?_, hM, fun k x hx => ?_, hlenp u, hnew ρ' v u hmv.sub hvu ht, (hdp u).trans hmv.sub.d.symm, h.mv.trans hM0 hmv⟩
    · rw [hl l hls hlc, getD_set _ _ _ hil, if_neg (fun e => hc k (by rw [e]; exact hlc))]
    · rcases hdom k x hx with h1 | h1
      · exact (h.dom k x h1).imp id (hdomOld k)
      · exact .inr ⟨i, hin, by rw [getD_set _ _ _ hil]; simp, h1⟩
  unfold wpOp
  rw [ho]
  simp only
  rw [hw]
  rcases hst.2 with ⟨hwd, ht, hm, hk⟩ | ⟨hwd, v, ht, hst⟩
  · rw [hwd]
    simp only [Bool.false_eq_true, if_false]
    exact hK _ w ρ M (stay ρ undef undef w (fun k => by omega) VR_undef h.mem (.refl _ _ _) ht fun k x hx => .inl hx)
  · rw [hwd]
    simp only [if_true]
    refine .inl ?_
    rcases hst with ⟨hk, hm, hn⟩ | ⟨hk, hm, hn⟩ | ⟨hk, B, hm, hn⟩ | ⟨k, hk, hm, hkl, hn⟩ | ⟨k, B, hk, hm, hkl, hn⟩
    · refine hn M (by simp) ρ a w hH h.mem (by simp) K Q fun u w' ρ' hu hM hmv hdom => ?_
      exact hK _ w' ρ' M (stay ρ' v u w' (fun k => by omega) hu hM hmv ht fun k x hx => .inl ((hdom k x hx).resolve_right (by simp)))
    · have hpm : ∀ (k : Nat) (B : Blk), (T i).mem[k]? = some B → M[k]? = some B := fun k B hB => by
        rw [h.cont k i (by omega) (List.getElem?_eq_some_iff.1 hB).1 fun l hl hlc => ?_]
        · exact hB
        · exact hclash l hl (fun e => by rw [e] at hlc; omega) (by rw [hlc, hk]; exact (clash_write_read1 k).1) (by rw [hlc, hk]; exact (clash_write_read1 k).2)
      refine hn M hpm ρ a w hH h.mem (by simp) K Q fun u w' ρ' hu hM hmv hdom => ?_
      exact hK _ w' ρ' M (stay ρ' v u w' (fun k => by omega) hu hM hmv ht fun k x hx => .inl ((hdom k x hx).resolve_right (by simp)))
    · have hl1 : (T (i + 1)).mem.length = (T i).mem.length + 1 := by rw [hm]; simp
      have hpm : M[(T i).mem.length]? = some B := by
        rw [h.cont (T i).mem.length (i + 1) (by omega) (by omega) fun l hl hlc => ?_]
        · rw [hm, List.getElem?_append_right (Nat.le_refl _), Nat.sub_self]; rfl
        · have hne : l ≠ i := fun e => by rw [e] at hlc; omega
          have := hclash l hl hne (by rw [hlc, hk]; exact (clash_write_make _).1) (by rw [hlc, hk]; exact (clash_write_make _).2)
          rw [← this]
          omega
      refine hn M hpm M (prefix_self _) ρ a w hH h.mem (fun k' hk' => ?_) K Q fun u w' ρ' hu hM hmv hdom => ?_
      · cases hk'
        cases hρ : ρ (T i).mem.length with
        | none => rfl
        | some x =>
          exfalso
          rcases h.dom _ x hρ with h3 | ⟨j, h3, h4, h5, h6⟩
          · have := traceG_le hT 0 i (by omega) (by omega)
            omega
          · rcases Nat.lt_trichotomy j i with h8 | h8 | h8
            · have := traceG_le hT (j + 1) i (by omega) (by omega)
              omega
            · subst h8; rw [hun] at h4; cases h4
            · have := traceG_le hT (i + 1) j (by omega) (by omega)
              omega
      · refine hK _ w' ρ' M (stay ρ' v u w' (fun k => by omega) hu hM hmv ht fun k x hx => ?_)
        rcases hdom k x hx with h3 | h3
        · exact .inl h3
        · cases h3
          exact .inr ⟨Nat.le_refl _, by omega⟩
    · have hpm : M[k]? = (T i).mem[k]? := h.cont k i (by omega) hkl fun l hl hlc =>
        hclash l hl (fun e => by rw [e] at hlc; omega) (by rw [hlc, hk]; exact (clash_write_read k).1) (by rw [hlc, hk]; exact (clash_write_read k).2)
      refine hn M hpm M (prefix_self _) ρ a w hH h.mem (by simp) K Q fun u w' ρ' hu hM hmv hdom => ?_
      exact hK _ w' ρ' M (stay ρ' v u w' (fun k => by omega) hu hM hmv ht fun k x hx => .inl ((hdom k x hx).resolve_right (by simp)))
    · have hord : ∀ l, l < ops.size → l ≠ i → cls l = 3 * k + 4 → (l < i ↔ listed.getD l false = true) := fun l hl hne hlc =>
        hclash l hl hne (by rw [hlc, hk]; exact clash_writes k) (by rw [hlc, hk]; exact clash_writes k)
      have hpm : M[k]? = (T i).mem[k]? := h.cont k i (by omega) hkl fun l hl hlc => by
        by_cases hne : l = i
        · subst hne
          constructor
          · intro hlt; omega
          · intro hl; rw [hun] at hl; cases hl
        · exact hord l hl hne hlc
      have hkM : k < M.length := by rw [h.total]; exact Nat.lt_of_lt_of_le hkl (traceG_le hT i ops.size (by omega) (Nat.le_refl _))
      refine hn M hpm ρ a w hH h.mem K Q fun u w' hu hM hmv => ?_
      refine hK _ w' ρ (M.set k B) ⟨by simp [h.size], hdown, by rw [List.length_set]; exact h.total, fun k' j hj hk' hl => ?_, hM, fun k' x hx => (h.dom k' x hx).imp id (hdomOld k'), hlenp u, hnew ρ v u (.refl _) hu ht, hdp u, h.mv.trans hM0 hmv⟩
      by_cases hkk : k' = k
      · subst hkk
        have hij : i < j := (hl i hin hk).2 (by rw [getD_set _ _ _ hil]; simp)
        have hl1 : (T (i + 1)).mem.length = (T i).mem.length := by rw [hm]; simp
        rw [List.getElem?_set_self hkM, traceG_cell hT (i := i + 1) (by omega) j (by omega) hj fun l h1 h2 hlc => ?_]
        · rw [hm, List.getElem?_set_self hkl]
        · have h3 := (hl l (by omega) hlc).1 h2
          rw [getD_set _ _ _ hil, if_neg (by omega)] at h3
          have := (hord l (by omega) (by omega) hlc).2 h3
          omega
      · rw [List.getElem?_set_ne (Ne.symm hkk)]
        refine h.cont k' j hj hk' fun l hls hlc => ?_
        rw [hl l hls hlc, getD_set _ _ _ hil, if_neg (fun e => hkk (by rw [← e] at hlc; omega))]

theorem PartG.any {ρ0 : Ren} {w0 : World} (hT : TraceG P ops T cls) (hF : FitsG ops cls bef) (hM0 : MRel ρ0 (T 0).mem w0) {Q : Exit → Act → World → Prop}
    (hQ : ∀ a w ρ, ARel ρ (T ops.size) a w → Mv ρ0 (T 0).mem w0 ρ (T ops.size).mem w → Q .normal a w) :
    ∀ (fuel : Nat) (listed : Array Bool) (a : Act) (w : World) (ρ : Ren) (M : Mem), ((List.range ops.size).filter fun j => !listed.getD j false).length ≤ fuel → PartG ops T cls ρ0 w0 listed a w ρ M →
      wpAny P .any ops Q fuel listed a w := by
  have done : ∀ (listed : Array Bool) (a : Act) (w : World) (ρ : Ren) (M : Mem), (∀ j, j < ops.size → listed.getD j false = true) → PartG ops T cls ρ0 w0 listed a w ρ M → Q .normal a w := by
    intro listed a w ρ M hall h
    have hMe : M = (T ops.size).mem := by
      refine List.ext_getElem? fun k => ?_
      rcases Nat.lt_or_ge k M.length with hk | hk
      · exact h.cont k ops.size (Nat.le_refl _) (by rw [← h.total]; exact hk) fun l hl _ => ⟨fun _ => hall l hl, fun _ => hl⟩
      · rw [List.getElem?_eq_none hk, List.getElem?_eq_none (by rw [← h.total]; exact hk)]
    have hm := h.mem
    have hv := h.mv
    rw [hMe] at hm hv
    refine hQ a w ρ ⟨⟨?_, fun t v u hv hu => ?_⟩, h.defers, hm⟩ hv
    · rw [h.len, traceG_len hT _ (Nat.le_refl _)]
    · have := h.slot t ops.size (Nat.le_refl _) fun i o ho _ => by
        have hi := (Array.getElem?_eq_some_iff.1 ho).1
        exact ⟨fun _ => hall i hi, fun _ => hi⟩
      rw [hv, hu] at this
      exact this
  have some_ready : ∀ (listed : Array Bool), listed.size = ops.size → Region.ready .any ops listed = [] → ∀ j, j < ops.size → listed.getD j false = true := by
    intro listed hsz hr j
    induction j using Nat.strongRecOn with
    | _ j ih =>
      intro hj
      cases hl : listed.getD j false with
      | true => rfl
      | false =>
        exfalso
        have ho : ops[j]? = some ops[j] := Array.getElem?_eq_getElem hj
        have : j ∈ Region.ready .any ops listed := mem_ready.2 ⟨by rw [getD_false_true (hsz ▸ hj)]; exact hl, _, ho, fun e he hb => by
          have hlt := hF.edge j _ ho e he hb
          exact ih e.on hlt (by omega)⟩
        rw [hr] at this
        cases this
  intro fuel
  induction fuel with
  | zero =>
    intro listed a w ρ M hf h
    have hall : ∀ j, j < ops.size → listed.getD j false = true := fun j hj => by
      cases hl : listed.getD j false with
      | true => rfl
      | false =>
        have : j ∈ (List.range ops.size).filter fun j => !listed.getD j false := List.mem_filter.2 ⟨List.mem_range.2 hj, by rw [hl]; rfl⟩
        have := List.length_pos_of_mem this
        omega
    refine ⟨?_, done listed a w ρ M hall h⟩
    rw [List.eq_nil_iff_forall_not_mem]
    intro j hj
    obtain ⟨h0, o, ho, _⟩ := mem_ready.1 hj
    have hjl := (Array.getElem?_eq_some_iff.1 ho).1
    rw [getD_false_true (h.size ▸ hjl), hall j hjl] at h0
    cases h0
  | succ fuel ih =>
    intro listed a w ρ M hf h
    refine ⟨fun hr => done listed a w ρ M (some_ready listed h.size hr) h, fun i hi' => ?_⟩
    obtain ⟨h0, o, ho, hall⟩ := mem_ready.1 hi'
    have hil := (Array.getElem?_eq_some_iff.1 ho).1
    rw [getD_false_true (h.size ▸ hil)] at h0
    refine h.step hT hF hM0 h0 hil (fun o' ho' e he hb => ?_) fun a' w' ρ' M' h' => ?_
    · rw [ho] at ho'; cases ho'; exact hall e he hb
    · exact ih _ a' w' ρ' M' (by have := count_set listed ops.size i h.size hil h0; omega) h'

/-- A REGION, IN WHATEVER ORDER, what is written told apart block by block. -/
theorem region_of_traceG (hm : P.follows .mixedOrders = true) {id : Nat} (hT : TraceG P ops T cls) (hF : ∃ bef, FitsG ops cls bef) {Q : Exit → St → Prop} (hQ : Q .normal (T ops.size)) :
    Tri P (.region id ops true) (T 0) Q := by
  intro ρ a w hr
  obtain ⟨bef, hF⟩ := hF
  refine wp_region_any hm ?_
  obtain ⟨M, hl, hM⟩ := traceG_first hT ops.size (Nat.le_refl _)
  have hpm : ∀ (k : Nat) (B : Blk), (T 0).mem[k]? = some B → M[k]? = some B := fun k B hB => by
    rw [hM k 0 (by omega) (List.getElem?_eq_some_iff.1 hB).1 fun l hl => by omega]; exact hB
  have hM0 : MRel ρ (T 0).mem { w with drawn := w.drawn + 1 } := ⟨hr.mem.cell, hr.mem.apart, hr.mem.froz, hr.mem.lists.heap (Nat.le_refl _) fun _ _ _ => rfl⟩
  have hfalse : ∀ j, (Array.replicate ops.size false).getD j false = false := fun j => by
    simp only [Array.getD_eq_getD_getElem?, Array.getElem?_replicate]
    split <;> rfl
  refine PartG.any hT hF hM0 (fun a' w' ρ' hr' hm' => ⟨_, ρ', hQ, hr', ⟨hm'.sub, hm'.new, hm'.kept, hm'.os, hm'.tape, hm'.output, hm'.size, hm'.block, hm'.newh, hm'.newg⟩⟩) ops.size _ a _ ρ M ?_
    ⟨by simp, fun j o ho hl => ?_, hl, fun k j hj hk hc => hM k j hj hk fun l hl hlc => ?_, hM0.ext hpm, fun k x hx => ?_, hr.tmps.1.symm, fun t j hj hc => ?_, hr.defers, (Mv.refl _ _ _).ext_right hpm⟩
  · exact Nat.le_trans (List.length_filter_le _ _) (by simp)
  · rw [hfalse] at hl; cases hl
  · have := (hc l (by omega) hlc).1 hl
    rw [hfalse] at this
    cases this
  · obtain ⟨b, s⟩ := x
    obtain ⟨C, hC, _⟩ := hr.mem.cell k b s hx
    exact .inl (List.getElem?_eq_some_iff.1 hC).1
  · rw [traceG_tmp hT t 0 j (by omega) hj fun k o _ hk ho hd => by have := (hc k o ho hd).1 hk; rw [hfalse] at this; cases this]
    exact hr.tmps.sr t

end
end Go.Ev
/-! Relative states, part H: code as a whole, functions. -/
namespace Go.Ev

/-! ### Orders, by program -/
def maskOf (acc : List Nat) : List Edge → Nat
  | [] => 0
  | e :: es => if Region.binds .any e then (2 ^ e.on ||| acc.getD e.on 0) ||| maskOf acc es else maskOf acc es
def befs : List Oper → List Nat → List Nat
  | [], acc => acc
  | o :: os, acc => befs os (acc ++ [maskOf acc o.after.toList])
def edgesB (b : List Nat) : Nat → List Oper → Bool
  | _, [] => true
  | i, o :: os => (o.after.toList.all fun e => !Region.binds .any e || decide (e.on < i)) && (b.getD i 0 == maskOf b o.after.toList) && edgesB b (i + 1) os
def pairB (ops : Array Oper) (oi oj : Oper) (ki kj m i : Nat) : Bool :=
  m.testBit i || (oi.apart ops oj && !((ki == 2 && decide (1 ≤ kj)) || (decide (1 ≤ ki) && kj == 2)))
def pairsB (ops : Array Oper) (oj : Oper) (kj m : Nat) : Nat → List Oper → List Nat → Bool
  | _, [], _ => true
  | i, oi :: os, ks => pairB ops oi oj (ks.headD 0) kj m i && pairsB ops oj kj m (i + 1) os ks.tail
def allPairsB (ops : Array Oper) (b ks : List Nat) (all : List Oper) : Nat → List Oper → Bool
  | _, [] => true
  | j, oj :: os => pairsB ops oj (ks.getD j 0) (b.getD j 0) 0 (all.take j) ks && allPairsB ops b ks all (j + 1) os
def fitsB (ops : Array Oper) (ks : List Nat) : Bool :=
  let b := befs ops.toList []
  edgesB b 0 ops.toList && allPairsB ops b ks ops.toList 0 ops.toList

theorem edgesB_spec {b : List Nat} : ∀ (os : List Oper) (i0 : Nat), edgesB b i0 os = true → ∀ (i : Nat) o, os[i]? = some o →
    (∀ e ∈ o.after, Region.binds .any e = true → e.on < i0 + i) ∧ b.getD (i0 + i) 0 = maskOf b o.after.toList
  | [], _, _, i, o, h => by simp at h
  | o :: os, i0, h, 0, o', h' => by
    simp at h'
    subst h'
    simp only [edgesB, Bool.and_eq_true, beq_iff_eq] at h
    refine ⟨fun e he hb => ?_, h.1.2⟩
    have := List.all_eq_true.1 h.1.1 e (by simpa using he)
    simp [hb] at this
    simpa using this
  | o :: os, i0, h, i + 1, o', h' => by
    simp only [edgesB, Bool.and_eq_true] at h
    have := edgesB_spec os (i0 + 1) h.2 i o' (by simpa using h')
    rwa [show i0 + 1 + i = i0 + (i + 1) by omega] at this

theorem maskOf_spec {b : List Nat} {i : Nat} : ∀ (es : List Edge), (maskOf b es).testBit i = true → ∃ e ∈ es, Region.binds .any e = true ∧ (e.on = i ∨ (b.getD e.on 0).testBit i = true)
  | [], h => by simp [maskOf] at h
  | e :: es, h => by
    unfold maskOf at h
    split at h
    · rename_i hb
      rw [Nat.testBit_or, Nat.testBit_or, Nat.testBit_two_pow] at h
      simp only [Bool.or_eq_true, decide_eq_true_eq] at h
      rcases h with (h | h) | h
      · exact ⟨e, by simp, hb, .inl h⟩
      · exact ⟨e, by simp, hb, .inr h⟩
      · obtain ⟨e', he', r⟩ := maskOf_spec es h; exact ⟨e', by simp [he'], r⟩
    · obtain ⟨e', he', r⟩ := maskOf_spec es h; exact ⟨e', by simp [he'], r⟩

theorem pairsB_spec {ops : Array Oper} {oj : Oper} {kj m : Nat} : ∀ (os : List Oper) (i0 : Nat) (ks : List Nat), pairsB ops oj kj m i0 os ks = true → ∀ (i : Nat) oi, os[i]? = some oi → pairB ops oi oj (ks.getD i 0) kj m (i0 + i) = true
  | [], _, _, _, i, o, h => by simp at h
  | o :: os, i0, ks, h, 0, o', h' => by
    simp at h'; subst h'
    simp only [pairsB, Bool.and_eq_true] at h
    have : ks.headD 0 = ks.getD 0 0 := by cases ks <;> rfl
    rw [← this]; exact h.1
  | o :: os, i0, ks, h, i + 1, o', h' => by
    simp only [pairsB, Bool.and_eq_true] at h
    have := pairsB_spec os (i0 + 1) ks.tail h.2 i o' (by simpa using h')
    have e : ks.tail.getD i 0 = ks.getD (i + 1) 0 := by cases ks <;> simp
    rwa [e, show i0 + 1 + i = i0 + (i + 1) by omega] at this

theorem allPairsB_spec {ops : Array Oper} {b ks : List Nat} {all : List Oper} : ∀ (os : List Oper) (j0 : Nat), allPairsB ops b ks all j0 os = true → ∀ (j : Nat) oj, os[j]? = some oj →
    ∀ (i : Nat) oi, i < j0 + j → all[i]? = some oi → pairB ops oi oj (ks.getD i 0) (ks.getD (j0 + j) 0) (b.getD (j0 + j) 0) i = true
  | [], _, _, j, o, h => by simp at h
  | o :: os, j0, h, 0, oj, h' => by
    intro i oi hi ho
    simp at h'; subst h'
    simp only [allPairsB, Bool.and_eq_true] at h
    have := pairsB_spec _ 0 ks h.1 i oi (by rw [List.getElem?_take, if_pos (by omega)]; exact ho)
    simpa using this
  | o :: os, j0, h, j + 1, oj, h' => by
    intro i oi hi ho
    simp only [allPairsB, Bool.and_eq_true] at h
    have := allPairsB_spec os (j0 + 1) h.2 j oj (by simpa using h') i oi (by omega) ho
    rwa [show j0 + 1 + j = j0 + (j + 1) by omega] at this

theorem fitsB_spec {ops : Array Oper} {ks : List Nat} (h : fitsB ops ks = true) : ∃ bef, Fits ops (fun i => ks.getD i 0) bef := by
  simp only [fitsB, Bool.and_eq_true] at h
  obtain ⟨h1, h2⟩ := h
  have hE := edgesB_spec _ _ h1
  have hP := allPairsB_spec _ _ h2
  refine ⟨fun i j => ((befs ops.toList []).getD j 0).testBit i && decide (j < ops.size), fun i o ho e he hb => ?_, fun i j hb => ?_, fun i j oi oj hij hoi hoj => ?_, fun i j hij hj hc => ?_⟩
  · have := (hE i o (by simpa using ho)).1 e he hb
    omega
  · simp only [Bool.and_eq_true, decide_eq_true_eq] at hb
    have ho : ops[j]? = some ops[j] := Array.getElem?_eq_getElem hb.2
    have hmk := (hE j ops[j] (by rw [Array.getElem?_toList]; exact ho)).2
    rw [Nat.zero_add] at hmk
    rw [hmk] at hb
    obtain ⟨e, he, hbind, hor⟩ := maskOf_spec _ hb.1
    have hlt := (hE j ops[j] (by rw [Array.getElem?_toList]; exact ho)).1 e (by simpa using he) hbind
    refine ⟨_, ho, e, by simpa using he, hbind, hor.imp id fun h => ?_⟩
    simp only [Bool.and_eq_true, decide_eq_true_eq]
    exact ⟨h, by omega⟩
  · have hjl := (Array.getElem?_eq_some_iff.1 hoj).1
    have := hP j oj (by simpa using hoj) i oi (by omega) (by simpa using hoi)
    simp only [pairB, Bool.or_eq_true, Bool.and_eq_true, Nat.zero_add] at this
    rcases this with h | ⟨h, _⟩
    · left; simp only [Bool.and_eq_true, decide_eq_true_eq]; exact ⟨h, hjl⟩
    · obtain ⟨s1, s2, s3⟩ := Oper.apart_spec h
      right
      exact ⟨fun d hd => ⟨s1 d hd, s2 d hd⟩, s3⟩
  · have hil : i < ops.size := by omega
    have := hP j ops[j] (by rw [Array.getElem?_toList]; exact Array.getElem?_eq_getElem hj) i ops[i] (by omega) (by rw [Array.getElem?_toList]; exact Array.getElem?_eq_getElem hil)
    simp only [pairB, Bool.or_eq_true, Bool.and_eq_true, Nat.zero_add] at this
    rcases this with h | ⟨_, h⟩
    · simp only [Bool.and_eq_true, decide_eq_true_eq]; exact ⟨h, hj⟩
    · exfalso
      simp only [Bool.not_eq_true', Bool.or_eq_false_iff, Bool.and_eq_false_iff, beq_eq_false_iff_ne, decide_eq_false_iff_not] at h
      omega

def pairG (ops : Array Oper) (oi oj : Oper) (ki kj m i : Nat) : Bool :=
  m.testBit i || (oi.apart ops oj && !clash ki kj)
def pairsG (ops : Array Oper) (oj : Oper) (kj m : Nat) : Nat → List Oper → List Nat → Bool
  | _, [], _ => true
  | i, oi :: os, ks => pairG ops oi oj (ks.headD 0) kj m i && pairsG ops oj kj m (i + 1) os ks.tail
def allPairsG (ops : Array Oper) (b ks : List Nat) (all : List Oper) : Nat → List Oper → Bool
  | _, [] => true
  | j, oj :: os => pairsG ops oj (ks.getD j 0) (b.getD j 0) 0 (all.take j) ks && allPairsG ops b ks all (j + 1) os
/-- The order is fit, and nobody writes where he does not tell. -/
def fitsG (ops : Array Oper) (ks : List Nat) : Bool :=
  (ks.all fun k => !(k == 2) && !(k == 3000000004)) && (edgesB (befs ops.toList []) 0 ops.toList && allPairsG ops (befs ops.toList []) ks ops.toList 0 ops.toList)
theorem pairsG_spec {ops : Array Oper} {oj : Oper} {kj m : Nat} : ∀ (os : List Oper) (i0 : Nat) (ks : List Nat), pairsG ops oj kj m i0 os ks = true → ∀ (i : Nat) oi, os[i]? = some oi → pairG ops oi oj (ks.getD i 0) kj m (i0 + i) = true
  | [], _, _, _, i, o, h => by simp at h
  | o :: os, i0, ks, h, 0, o', h' => by
    simp at h'; subst h'
    simp only [pairsG, Bool.and_eq_true] at h
    have : ks.headD 0 = ks.getD 0 0 := by cases ks <;> rfl
    rw [← this]; exact h.1
  | o :: os, i0, ks, h, i + 1, o', h' => by
    simp only [pairsG, Bool.and_eq_true] at h
    have := pairsG_spec os (i0 + 1) ks.tail h.2 i o' (by simpa using h')
    have e : ks.tail.getD i 0 = ks.getD (i + 1) 0 := by cases ks <;> simp
    rwa [e, show i0 + 1 + i = i0 + (i + 1) by omega] at this
theorem allPairsG_spec {ops : Array Oper} {b ks : List Nat} {all : List Oper} : ∀ (os : List Oper) (j0 : Nat), allPairsG ops b ks all j0 os = true → ∀ (j : Nat) oj, os[j]? = some oj →
    ∀ (i : Nat) oi, i < j0 + j → all[i]? = some oi → pairG ops oi oj (ks.getD i 0) (ks.getD (j0 + j) 0) (b.getD (j0 + j) 0) i = true
  | [], _, _, j, o, h => by simp at h
  | o :: os, j0, h, 0, oj, h' => by
    intro i oi hi ho
    simp at h'; subst h'
    simp only [allPairsG, Bool.and_eq_true] at h
    have := pairsG_spec _ 0 ks h.1 i oi (by rw [List.getElem?_take, if_pos (by omega)]; exact ho)
    simpa using this
  | o :: os, j0, h, j + 1, oj, h' => by
    intro i oi hi ho
    simp only [allPairsG, Bool.and_eq_true] at h
    have := allPairsG_spec os (j0 + 1) h.2 j oj (by simpa using h') i oi (by omega) ho
    rwa [show j0 + 1 + j = j0 + (j + 1) by omega] at this
theorem fitsG_spec {ops : Array Oper} {ks : List Nat} (h : fitsG ops ks = true) : (∃ bef, FitsG ops (fun i => ks.getD i 0) bef) ∧ ∀ k ∈ ks, k ≠ 2 ∧ k ≠ 3000000004 := by
  simp only [fitsG, Bool.and_eq_true] at h
  obtain ⟨h0, h1, h2⟩ := h
  have hE := edgesB_spec _ _ h1
  have hP := allPairsG_spec _ _ h2
  refine ⟨⟨fun i j => ((befs ops.toList []).getD j 0).testBit i && decide (j < ops.size), fun i o ho e he hb => ?_, fun i j hb => ?_, fun i j oi oj hij hoi hoj => ?_, fun i j hij hj hc => ?_⟩, fun k hk => by have := List.all_eq_true.1 h0 k hk; simpa using this⟩
  · have := (hE i o (by simpa using ho)).1 e he hb
    omega
  · simp only [Bool.and_eq_true, decide_eq_true_eq] at hb
    have ho : ops[j]? = some ops[j] := Array.getElem?_eq_getElem hb.2
    have hmk := (hE j ops[j] (by rw [Array.getElem?_toList]; exact ho)).2
    rw [Nat.zero_add] at hmk
    rw [hmk] at hb
    obtain ⟨e, he, hbind, hor⟩ := maskOf_spec _ hb.1
    have hlt := (hE j ops[j] (by rw [Array.getElem?_toList]; exact ho)).1 e (by simpa using he) hbind
    refine ⟨_, ho, e, by simpa using he, hbind, hor.imp id fun h => ?_⟩
    simp only [Bool.and_eq_true, decide_eq_true_eq]
    exact ⟨h, by omega⟩
  · have hjl := (Array.getElem?_eq_some_iff.1 hoj).1
    have := hP j oj (by simpa using hoj) i oi (by omega) (by simpa using hoi)
    simp only [pairG, Bool.or_eq_true, Bool.and_eq_true, Nat.zero_add] at this
    rcases this with h | ⟨h, _⟩
    · left; simp only [Bool.and_eq_true, decide_eq_true_eq]; exact ⟨h, hjl⟩
    · obtain ⟨s1, s2, s3⟩ := Oper.apart_spec h
      right
      exact ⟨fun d hd => ⟨s1 d hd, s2 d hd⟩, s3⟩
  · have hil : i < ops.size := by omega
    have := hP j ops[j] (by rw [Array.getElem?_toList]; exact Array.getElem?_eq_getElem hj) i ops[i] (by omega) (by rw [Array.getElem?_toList]; exact Array.getElem?_eq_getElem hil)
    simp only [pairG, Bool.or_eq_true, Bool.and_eq_true, Nat.zero_add] at this
    rcases this with h | ⟨_, h⟩
    · simp only [Bool.and_eq_true, decide_eq_true_eq]; exact ⟨h, hj⟩
    · rw [hc] at h; cases h

/-! ### A region's operations -/
def forceL {α β : Type} : List α → (List α → β) → β
  | [], k => k []
  | x :: xs, k => forceL xs fun ys => k (x :: ys)
theorem forceL_eq {α β : Type} : ∀ (l : List α) (k : List α → β), forceL l k = k l
  | [], _ => rfl
  | x :: xs, k => by rw [forceL, forceL_eq xs]

/-- Which operations' results are tests of others. -/
def guardsOf : List Oper → List Nat
  | [] => []
  | o :: os => match o.guard with | some (j, _) => j :: guardsOf os | none => guardsOf os

/-- Is b what it is taken for? -/
def eqB (b t : Bool) : Bool := match t with | true => b | false => !b
theorem eqB_eq {b t : Bool} (h : eqB b t = true) : b = t := by cases t <;> cases b <;> first | rfl | cases h
def allB : List Bool → Bool
  | [] => true
  | b :: bs => match b with | true => allB bs | false => false
theorem allB_cons (b : Bool) (bs : List Bool) : allB (b :: bs) = (b && allB bs) := by cases b <;> rfl
theorem allB_append : ∀ (l m : List Bool), allB (l ++ m) = (allB l && allB m)
  | [], _ => rfl
  | b :: l, m => by rw [List.cons_append, allB_cons, allB_cons, allB_append l m, Bool.and_assoc]
/-- The same under another name, for what a text is expected to ask (the kernel then compares test by test). -/
def conj : List Bool → Bool
  | [] => true
  | b :: bs => match b with | true => conj bs | false => false
theorem conj_cons (b : Bool) (bs : List Bool) : conj (b :: bs) = (b && conj bs) := by cases b <;> rfl
theorem conj_nil : conj [] = true := rfl
/-- A test's answer: what it is, or what it is taken for. -/
def settle (isG : Bool) (v : Value) (ans : List Ans) : Option (Bool × List Prop × Value × List Ans) :=
  match ans with
  | .at 0 v' :: ans =>
    match v, v' with
    | .int k x, .int k' z => if k = k' then some (decide (x = z), [], .int k z, ans) else none
    | v, v' => some (true, [v = v'], v', ans)
  | .at (n + 1) v' :: ans => some (true, [], v, .at n v' :: ans)
  | .is 0 v' :: ans => some (true, [v = v'], v', ans)
  | .is (n + 1) v' :: ans => some (true, [], v, .is n v' :: ans)
  | ans =>
    if isG then
      match v, ans with
      | .bool b, .tst t :: ans => some (eqB b t, [], .bool t, ans)
      | _, .tst _ :: _ => none
      | v, .auto :: ans => some (true, [], v, ans)
      | v, ans => some (true, [], v, ans)
    else some (true, [], v, ans)

def effMem (m : Mem) : Eff → Mem × Nat
  | .pure => (m, 0)
  | .read => (m, 1)
  | .new B => (m ++ [B], 3 * m.length + 5)
  | .write m' => (m', 2)
  | .adds l => (m ++ l, 3000000004)
  | .own k B => (m.set k B, 3 * k + 4)

/-- What an operation does to memory: 0 nothing, 1 it reads, 2 it writes; 3 k + 3: it reads block k only, 3 k + 4: it writes block k only, 3 k + 5: it makes block k. -/
def codeOf (E : Operand → Option Value) (o : Oper) (c : Nat) : Nat :=
  match o.op with
  | .load _ x => match E x with
    | some (.pointer (some ⟨k, _, none⟩)) => 3 * k + 3
    | _ => c
  | .store _ x _ => match E x with
    | some (.pointer (some ⟨k, _, none⟩)) => 3 * k + 4
    | _ => c
  | _ => c
/-- Does it leave block k as it is? -/
def leaves (k c : Nat) : Bool := !(c == 2) && !(c == 3 * k + 4)
/-- The classes: who reads only what nobody writes asks nothing of the order. -/
def classOf (n : Nat) (all : List Nat) (c : Nat) : Nat :=
  match decide (c < 3) with
  | true => c
  | false => match c % 3 == 1 with
    | true => 2
    | false => match c % 3 == 0 with
      | true => match decide ((c - 3) / 3 < n) && all.all (leaves ((c - 3) / 3)) with
        | true => 0
        | false => 1
      | false => 1
def classes (n : Nat) (cs : List Nat) : List Nat := cs.map (classOf n cs)

def evOps (P : Program) (ops : Array Oper) (gs : List Nat) : Nat → List Oper → St → List Ans → Option (List Bool × List Prop × St × List Ans × List Nat)
  | _, [], S, ans => some ([], [], S, ans, [])
  | i, o :: os, S, ans =>
    match guardOk ops S.tmps o with
    | false => none
    | true =>
    match wantedL ops S.tmps o with
    | true =>
      match evOp P S.mem S.eval o ans with
      | some (r, ans1) =>
        match settle (gs.contains i) r.v ans1 with
        | some (c, p1, v, ans2) =>
          forceL (putL S.tmps o.dst v) fun ts =>
          forceL (effMem S.mem r.eff).1 fun m =>
          match evOps P ops gs (i + 1) os ⟨ts, m⟩ ans2 with
          | some (c2, p2, S2, ans3, ks) => some (r.ok :: c :: c2, r.obs ++ (p1 ++ p2), S2, ans3, codeOf S.eval o (effMem S.mem r.eff).2 :: ks)
          | none => none
        | none => none
      | none => none
    | false =>
      match evOps P ops gs (i + 1) os ⟨putL S.tmps o.dst undef, S.mem⟩ ans with
      | some (c2, p2, S2, ans3, ks) => some (c2, p2, S2, ans3, 0 :: ks)
      | none => none

theorem settle_spec {g c : Bool} {p : List Prop} {v v' : Value} {ans ans' : List Ans} (h : settle g v ans = some (c, p, v', ans')) (hc : c = true) (hp : ∀ q ∈ p, q) : v' = v := by
  subst hc
  unfold settle at h
  split at h
  · split at h
    · split at h
      · simp only [Option.some.injEq, Prod.mk.injEq, decide_eq_true_eq] at h
        obtain ⟨h1, _, rfl, _⟩ := h
        rw [h1]
      · cases h
    · simp only [Option.some.injEq, Prod.mk.injEq, true_and] at h
      obtain ⟨rfl, rfl, _⟩ := h
      exact (hp _ (List.mem_singleton.2 rfl)).symm
  · simp only [Option.some.injEq, Prod.mk.injEq] at h; exact h.2.2.1.symm
  · simp only [Option.some.injEq, Prod.mk.injEq, true_and] at h
    obtain ⟨rfl, rfl, _⟩ := h
    exact (hp _ (List.mem_singleton.2 rfl)).symm
  · simp only [Option.some.injEq, Prod.mk.injEq] at h; exact h.2.2.1.symm
  · split at h
    · split at h
      · simp only [Option.some.injEq, Prod.mk.injEq] at h
        obtain ⟨h1, _, rfl, _⟩ := h; rw [eqB_eq h1]
      · cases h
      · simp only [Option.some.injEq, Prod.mk.injEq] at h; exact h.2.2.1.symm
      · simp only [Option.some.injEq, Prod.mk.injEq] at h; exact h.2.2.1.symm
    · simp only [Option.some.injEq, Prod.mk.injEq] at h; exact h.2.2.1.symm

section
variable {P : Program}

/-- What an operation says of memory, by its code. -/
def MemR (P : Program) (mem : Mem) (E : Operand → Option Value) (o : Oper) (v : Value) (mem' : Mem) (code : Nat) : Prop :=
  (code = 0 ∧ mem' = mem ∧ NonW P o E v [] none) ∨ (code = 1 ∧ mem' = mem ∧ NonW P o E v mem none) ∨ (code = 3 * mem.length + 5 ∧ ∃ B, mem' = mem ++ [B] ∧ ∀ M : Mem, M[mem.length]? = some B → NonW P o E v M (some mem.length)) ∨ (code = 2 ∧ Wr P o E v mem mem') ∨
  (∃ k, code = 3 * k + 3 ∧ mem' = mem ∧ ∀ M : Mem, M[k]? = mem[k]? → NonW P o E v M none) ∨ (∃ k, code = 3 * k + 4 ∧ Wr P o E v mem mem' ∧ ∀ k', k' < mem.length → k' ≠ k → mem'[k']? = mem[k']?)
theorem loadOp_only {mem M : Mem} {t : TypeId} {k off : Nat} (h : M[k]? = mem[k]?) : loadOp P M t (.pointer (some ⟨k, off, none⟩)) = loadOp P mem t (.pointer (some ⟨k, off, none⟩)) := by
  unfold loadOp
  simp only [h]
theorem storeOp_only {mem m : Mem} {t : TypeId} {k off : Nat} {y : Value} {c : Bool} (h : storeOp P mem t (.pointer (some ⟨k, off, none⟩)) y = some (c, m)) : ∀ k', k' ≠ k → m[k']? = mem[k']? := by
  intro k' hk
  unfold storeOp at h
  simp only at h
  split at h
  · split at h
    · cases h; rw [List.getElem?_set_ne (fun e => hk e.symm)]
    · cases h
  · cases h
theorem evOp_memR {mem : Mem} {E : Operand → Option Value} {o : Oper} {ans ans' : List Ans} {r : Out} (h : evOp P mem E o ans = some (r, ans')) (hok : r.ok = true) (hobs : ∀ p ∈ r.obs, p) :
    MemR P mem E o r.v (effMem mem r.eff).1 (codeOf E o (effMem mem r.eff).2) := by
  have hout := evOp_sound h hok hobs
  have gen : MemR P mem E o r.v (effMem mem r.eff).1 (effMem mem r.eff).2 := by
    unfold OutR at hout
    cases hr : r.eff with
    | pure => rw [hr] at hout; exact .inl ⟨rfl, rfl, hout⟩
    | read => rw [hr] at hout; exact .inr (.inl ⟨rfl, rfl, hout⟩)
    | new B => rw [hr] at hout; exact .inr (.inr (.inl ⟨rfl, B, rfl, hout⟩))
    | write m => rw [hr] at hout; exact .inr (.inr (.inr (.inl ⟨rfl, hout⟩)))
    | adds l => rw [hr] at hout; exact .inr (.inr (.inr (.inr (.inr ⟨1000000000, rfl, hout, fun k' hk' _ => List.getElem?_append_left hk'⟩))))
    | own k B => rw [hr] at hout; exact .inr (.inr (.inr (.inr (.inr ⟨k, rfl, (hout.2 mem rfl).wr, fun k' _ hne => List.getElem?_set_ne (Ne.symm hne)⟩))))
  unfold codeOf
  split
  · rename_i t x ho
    split
    · rename_i k off hx
      have hM : ∀ M : Mem, M[k]? = mem[k]? → evOp P M E o ans = some (r, ans') := fun M hM => by
        unfold evOp at h ⊢
        simp only [ho, hx] at h ⊢
        rw [loadOp_only hM]; exact h
      have hr : r.eff = .read := by
        unfold evOp at h
        simp only [ho, hx, pureOut] at h
        split at h
        · cases h; rfl
        · cases h
      refine .inr (.inr (.inr (.inr (.inl ⟨k, rfl, by rw [hr]; rfl, fun M hm => ?_⟩))))
      have := evOp_sound (hM M hm) hok hobs
      unfold OutR at this
      rw [hr] at this
      exact this
    · exact gen
  · rename_i t x y ho
    split
    · rename_i k off hx
      have hr : ∃ m, r.eff = .write m ∧ ∀ k', k' ≠ k → m[k']? = mem[k']? := by
        unfold evOp at h
        simp only [ho, hx] at h
        split at h
        · rename_i vx vy h1 h2
          cases h1
          split at h
          · rename_i c m hs
            cases h
            exact ⟨m, rfl, storeOp_only hs⟩
          · cases h
        · cases h
      obtain ⟨m, hr, hm⟩ := hr
      unfold OutR at hout
      rw [hr] at hout ⊢
      exact .inr (.inr (.inr (.inr (.inr ⟨k, rfl, hout, fun k' _ => hm k'⟩))))
    · exact gen
  · exact gen
theorem storeOp_set {mem m : Mem} {t : TypeId} {k off : Nat} {y : Value} {c : Bool} (h : storeOp P mem t (.pointer (some ⟨k, off, none⟩)) y = some (c, m)) :
    ∃ B, m = mem.set k B ∧ k < mem.length ∧ ∀ M : Mem, M[k]? = mem[k]? → storeOp P M t (.pointer (some ⟨k, off, none⟩)) y = some (c, M.set k B) := by
  unfold storeOp at h
  simp only at h
  split at h
  · rename_i B hB
    split at h
    · rename_i hc
      cases h
      refine ⟨_, rfl, (List.getElem?_eq_some_iff.1 hB).1, fun M hM => ?_⟩
      unfold storeOp
      simp only [hM, hB, hc, if_true]
    · cases h
  · cases h
theorem loadOp_in {mem : Mem} {t : TypeId} {k off : Nat} {r : Bool × Value} (h : loadOp P mem t (.pointer (some ⟨k, off, none⟩)) = some r) : k < mem.length := by
  unfold loadOp at h
  simp only at h
  rcases Nat.lt_or_ge k mem.length with hk | hk
  · exact hk
  · rw [List.getElem?_eq_none hk] at h
    simp at h
/-- What writes a block of its own by a call is a call. -/
theorem evOp_own {mem : Mem} {E : Operand → Option Value} {o : Oper} {ans ans' : List Ans} {r : Out} (h : evOp P mem E o ans = some (r, ans')) {k : Nat} {B : Blk} (hr : r.eff = .own k B) (c : Nat) : codeOf E o c = c := by
  unfold codeOf
  split
  · rename_i t x ho
    unfold evOp at h
    simp only [ho] at h
    split at h
    · split at h
      · cases h; cases hr
      · cases h
    · unfold pureOut at h
      split at h
      · cases h; cases hr
      · cases h
    · unfold pureOut at h
      split at h
      · cases h; cases hr
      · cases h
    · unfold pureOut at h
      split at h
      · cases h; cases hr
      · cases h
    · cases h
  · rename_i t x y ho
    unfold evOp at h
    simp only [ho] at h
    split at h
    · split at h
      · cases h; cases hr
      · cases h
    · cases h
  · rfl
theorem eff_out {mem : Mem} {e : Eff} {c : Nat} {p : Prop} (hown : ¬ ∃ k B, e = .own k B) (hc : (effMem mem e).2 = c) (h3 : 3 ≤ c) (h4 : c ≠ 3000000004 ∧ c % 3 ≠ 2) : p := by
  cases e with
  | own k B => exact absurd ⟨_, _, rfl⟩ hown
  | pure => simp only [effMem] at hc; omega
  | read => simp only [effMem] at hc; omega
  | new B => simp only [effMem] at hc; omega
  | write m => simp only [effMem] at hc; omega
  | adds l => simp only [effMem] at hc; omega
theorem evOp_memG {mem : Mem} {E : Operand → Option Value} {o : Oper} {ans ans' : List Ans} {r : Out} (h : evOp P mem E o ans = some (r, ans')) (hok : r.ok = true) (hobs : ∀ p ∈ r.obs, p) (hne : codeOf E o (effMem mem r.eff).2 ≠ 2 ∧ codeOf E o (effMem mem r.eff).2 ≠ 3000000004) :
    MemG P mem E o r.v (effMem mem r.eff).1 (codeOf E o (effMem mem r.eff).2) := by
  have hR := evOp_memR h hok hobs
  by_cases hown : ∃ k B, r.eff = .own k B
  · obtain ⟨k, B, hr⟩ := hown
    have hout := evOp_sound h hok hobs
    unfold OutR at hout
    rw [evOp_own h hr]
    rw [hr] at hout ⊢
    exact .inr (.inr (.inr (.inr ⟨k, B, rfl, rfl, hout.1, hout.2⟩)))
  rcases hR with ⟨hc, hm, hn⟩ | ⟨hc, hm, hn⟩ | ⟨hc, B, hm, hn⟩ | ⟨hc, hn⟩ | ⟨k, hc, hm, hn⟩ | ⟨k, hc, hn, hm⟩
  · rw [hc]; exact .inl ⟨rfl, hm, hn⟩
  · rw [hc]; exact .inr (.inl ⟨rfl, hm, hn⟩)
  · rw [hc]; exact .inr (.inr (.inl ⟨rfl, B, hm, hn⟩))
  · exact absurd hc hne.1
  · rw [hc]
    refine .inr (.inr (.inr (.inl ⟨k, rfl, hm, ?_, hn⟩)))
    unfold codeOf at hc
    split at hc
    · rename_i t x ho
      split at hc
      · rename_i k' off hx
        have e : k' = k := by omega
        subst e
        unfold evOp at h
        simp only [ho, hx, pureOut] at h
        split at h
        · rename_i hl; exact loadOp_in hl
        · cases h
      · exact eff_out hown hc (by omega) (by omega)
    · split at hc
      · omega
      · exact eff_out hown hc (by omega) (by omega)
    · exact eff_out hown hc (by omega) (by omega)
  · have hnk : 3 * k + 4 ≠ 3000000004 := by rw [← hc]; exact hne.2
    rw [hc]
    unfold codeOf at hc
    split at hc
    · split at hc
      · omega
      · exact eff_out hown hc (by omega) (by omega)
    · rename_i t x y ho
      split at hc
      · rename_i k' off hx
        have e : k' = k := by omega
        subst e
        unfold evOp at h
        simp only [ho] at h
        split at h
        · rename_i vx vy h1 h2
          rw [hx] at h1
          cases h1
          split at h
          · rename_i c m hs
            cases h
            simp only at hok
            subst hok
            obtain ⟨B, hB, hkl, hall⟩ := storeOp_set hs
            refine .inr (.inr (.inr (.inr ⟨k', B, rfl, hB, hkl, fun M hM => ?_⟩)))
            intro ρ a w hH hMr next Q hnx
            obtain ⟨w', hr, hM', hmv⟩ := storeOp_sound (hall M hM) (hH x (by simp [ho, Op.operands]) _ hx) (hH y (by simp [ho, Op.operands]) _ h2) hMr
            unfold Oper.wp
            have : (execOp a.eval o).run P w = .ok .skip w' := by simp [execOp, ho, hr]
            rw [this]
            exact hnx undef w' VR_undef hM' hmv
          · cases h
        · cases h
      · exact eff_out hown hc (by omega) (by omega)
    · exact eff_out hown hc (by omega) (by omega)
def Step2 (P : Program) (ops : Array Oper) (o : Oper) (S S' : St) (code : Nat) : Prop :=
  guardOk ops S.tmps o = true ∧ ((wantedL ops S.tmps o = false ∧ S'.tmps = putL S.tmps o.dst undef ∧ S'.mem = S.mem ∧ code = 0) ∨
  (wantedL ops S.tmps o = true ∧ ∃ v, S'.tmps = putL S.tmps o.dst v ∧ MemR P S.mem S.eval o v S'.mem code))
theorem trace_of_steps {ops : Array Oper} {T : Nat → St} {cs : List Nat} (hl : cs.length = ops.size) (h : ∀ (j : Nat) o, ops[j]? = some o → Step2 P ops o (T j) (T (j + 1)) (cs.getD j 0)) :
    Trace P ops T (fun i => (classes (T 0).mem.length cs).getD i 0) := by
  have hcs : ∀ j, j < ops.size → cs.getD j 0 ∈ cs := fun j hj => by
    rw [List.getD_eq_getElem?_getD, List.getElem?_eq_getElem (by omega)]; exact List.getElem_mem _
  have hcl : ∀ j, j < ops.size → (classes (T 0).mem.length cs).getD j 0 = classOf (T 0).mem.length cs (cs.getD j 0) := fun j hj => by
    unfold classes
    rw [List.getD_eq_getElem?_getD, List.getElem?_map, List.getD_eq_getElem?_getD, List.getElem?_eq_getElem (by omega)]; rfl
  have stable : ∀ k, k < (T 0).mem.length → cs.all (leaves k) = true → ∀ j, j ≤ ops.size → (T j).mem[k]? = (T 0).mem[k]? := by
    intro k hk hall j
    induction j with
    | zero => intro _; rfl
    | succ j ih =>
      intro hj
      have hih := ih (by omega)
      have ho : ops[j]? = some ops[j] := Array.getElem?_eq_getElem (by omega)
      have hlv := List.all_eq_true.1 hall _ (hcs j (by omega))
      simp only [leaves, Bool.and_eq_true, Bool.not_eq_true', beq_eq_false_iff_ne, ne_eq] at hlv
      rcases (h j _ ho).2 with ⟨_, _, hm, _⟩ | ⟨_, v, _, ⟨_, hm, _⟩ | ⟨_, hm, _⟩ | ⟨_, B, hm, _⟩ | ⟨h2, _⟩ | ⟨k', _, hm, _⟩ | ⟨k', hc, _, hm⟩⟩
      · rw [hm]; exact hih
      · rw [hm]; exact hih
      · rw [hm]; exact hih
      · have hlt : k < (T j).mem.length := by
          have : (T 0).mem[k]? = some (T 0).mem[k] := List.getElem?_eq_getElem hk
          rw [this] at hih
          exact (List.getElem?_eq_some_iff.1 hih).1
        rw [hm, List.getElem?_append_left hlt]; exact hih
      · exact absurd h2 hlv.1
      · rw [hm]; exact hih
      · have hlt : k < (T j).mem.length := by
          have : (T 0).mem[k]? = some (T 0).mem[k] := List.getElem?_eq_getElem hk
          rw [this] at hih
          exact (List.getElem?_eq_some_iff.1 hih).1
        rw [hm k hlt (fun e => hlv.2 (by rw [hc, e]))]; exact hih
  intro i hi
  refine ⟨ops[i], Array.getElem?_eq_getElem hi, ?_⟩
  have ho : ops[i]? = some ops[i] := Array.getElem?_eq_getElem hi
  obtain ⟨hg, hs⟩ := h i _ ho
  simp only
  rw [hcl i hi]
  refine ⟨hg, ?_⟩
  rcases hs with ⟨hw, ht, hm, hc⟩ | ⟨hw, v, ht, hs⟩
  · exact .inl ⟨hw, ht, hm, by rw [hc]; rfl⟩
  · refine .inr ⟨hw, v, ht, ?_⟩
    rcases hs with ⟨hc, hm, hn⟩ | ⟨hc, hm, hn⟩ | ⟨hc, B, hm, hn⟩ | ⟨hc, hn⟩ | ⟨k, hc, hm, hn⟩ | ⟨k, hc, hn, _⟩
    · rw [hc]; exact .inl ⟨rfl, hm, fun M _ N hN => hn N (by simp)⟩
    · rw [hc]; exact .inr (.inl ⟨rfl, hm, hn⟩)
    · have e1 : classOf (T 0).mem.length cs (cs.getD i 0) = 1 := by
        rw [hc]
        unfold classOf
        rw [decide_eq_false (by omega), show ((3 * (T i).mem.length + 5) % 3 == 1) = false by rw [beq_eq_false_iff_ne]; omega, show ((3 * (T i).mem.length + 5) % 3 == 0) = false by rw [beq_eq_false_iff_ne]; omega]
      rw [e1]
      exact .inr (.inr (.inl ⟨rfl, B, hm, hn _ (by rw [hm, List.getElem?_append_right (Nat.le_refl _), Nat.sub_self]; rfl)⟩))
    · rw [hc]; exact .inr (.inr (.inr ⟨rfl, hn⟩))
    · have e1 : classOf (T 0).mem.length cs (cs.getD i 0) = match decide (k < (T 0).mem.length) && cs.all (leaves k) with | true => 0 | false => 1 := by
        rw [hc]
        unfold classOf
        rw [decide_eq_false (by omega), show ((3 * k + 3) % 3 == 1) = false by rw [beq_eq_false_iff_ne]; omega, show ((3 * k + 3) % 3 == 0) = true by rw [beq_iff_eq]; omega, show (3 * k + 3 - 3) / 3 = k by omega]
      rw [e1]
      split
      · rename_i hf
        simp only [Bool.and_eq_true, decide_eq_true_eq] at hf
        refine .inl ⟨rfl, hm, ?_⟩
        rintro M ⟨j, hj, rfl⟩
        exact hn _ ((stable k hf.1 hf.2 j hj).trans (stable k hf.1 hf.2 i (by omega)).symm)
      · exact .inr (.inl ⟨rfl, hm, hn _ rfl⟩)
    · have e1 : classOf (T 0).mem.length cs (cs.getD i 0) = 2 := by
        rw [hc]
        unfold classOf
        rw [decide_eq_false (by omega), show ((3 * k + 4) % 3 == 1) = true by rw [beq_iff_eq]; omega]
      rw [e1]
      exact .inr (.inr (.inr ⟨rfl, hn⟩))

theorem evOps_len {ops : Array Oper} {gs : List Nat} : ∀ (os : List Oper) (i : Nat) (S S' : St) (ans ans' : List Ans) (c : List Bool) (p : List Prop) (ks : List Nat),
    evOps P ops gs i os S ans = some (c, p, S', ans', ks) → ks.length = os.length
  | [], i, S, S', ans, ans', c, p, ks, h => by
    simp only [evOps, Option.some.injEq, Prod.mk.injEq] at h
    rw [← h.2.2.2.2]; rfl
  | o :: os, i, S, S', ans, ans', c, p, ks, h => by
    unfold evOps at h
    split at h
    · cases h
    split at h
    · split at h
      · split at h
        · rw [forceL_eq, forceL_eq] at h
          split at h
          · rename_i hrec
            simp only [Option.some.injEq, Prod.mk.injEq] at h
            rw [← h.2.2.2.2, List.length_cons, List.length_cons, evOps_len os _ _ _ _ _ _ _ _ hrec]
          · cases h
        · cases h
      · cases h
    · split at h
      · rename_i hrec
        simp only [Option.some.injEq, Prod.mk.injEq] at h
        rw [← h.2.2.2.2, List.length_cons, List.length_cons, evOps_len os _ _ _ _ _ _ _ _ hrec]
      · cases h

theorem evOps_trace {ops : Array Oper} {gs : List Nat} : ∀ (os : List Oper) (i : Nat) (S S' : St) (ans ans' : List Ans) (c : List Bool) (p : List Prop) (ks : List Nat),
    evOps P ops gs i os S ans = some (c, p, S', ans', ks) → allB c = true → (∀ q ∈ p, q) →
    ∃ T : Nat → St, T 0 = S ∧ T os.length = S' ∧ ∀ (j : Nat) o, os[j]? = some o → Step2 P ops o (T j) (T (j + 1)) (ks.getD j 0)
  | [], i, S, S', ans, ans', c, p, ks, h, _, _ => by
    simp only [evOps, Option.some.injEq, Prod.mk.injEq] at h
    exact ⟨fun _ => S, rfl, h.2.2.1, fun j o ho => by simp at ho⟩
  | o :: os, i, S, S', ans, ans', c, p, ks, h, hc, hp => by
    have glue : ∀ (S1 : St) (k : Nat) (ks' : List Nat), Step2 P ops o S S1 k → (∃ T : Nat → St, T 0 = S1 ∧ T os.length = S' ∧ ∀ (j : Nat) o, os[j]? = some o → Step2 P ops o (T j) (T (j + 1)) (ks'.getD j 0)) →
        ∃ T : Nat → St, T 0 = S ∧ T (o :: os).length = S' ∧ ∀ (j : Nat) o', (o :: os)[j]? = some o' → Step2 P ops o' (T j) (T (j + 1)) ((k :: ks').getD j 0) := by
      intro S1 k ks' hs ⟨T, h0, h1, h2⟩
      refine ⟨fun j => match j with | 0 => S | j + 1 => T j, rfl, by simpa using h1, fun j o' ho' => ?_⟩
      cases j with
      | zero => simp at ho'; subst ho'; simp only [h0]; exact hs
      | succ j => simp at ho'; exact h2 j o' ho'
    unfold evOps at h
    split at h
    · cases h
    rename_i hgk
    split at h
    · rename_i hw
      split at h
      · rename_i r ans1 hev
        split at h
        · rename_i c1 p1 v ans2 hset
          rw [forceL_eq, forceL_eq] at h
          split at h
          · rename_i c2 p2 S2 ans3 ks' hrec
            simp only [Option.some.injEq, Prod.mk.injEq] at h
            obtain ⟨rfl, rfl, rfl, rfl, rfl⟩ := h
            simp only [allB_cons, Bool.and_eq_true] at hc
            obtain ⟨hok, hc1, hc2⟩ := hc
            have hout := evOp_memR hev hok fun q hq => hp q (List.mem_append_left _ hq)
            have hv := settle_spec hset hc1 fun q hq => hp q (List.mem_append_right _ (List.mem_append_left _ hq))
            subst hv
            exact glue _ _ _ ⟨hgk, .inr ⟨hw, r.v, rfl, hout⟩⟩ (evOps_trace os (i + 1) _ _ _ _ _ _ _ hrec hc2 fun q hq => hp q (List.mem_append_right _ (List.mem_append_right _ hq)))
          · cases h
        · cases h
      · cases h
    · rename_i hw
      split at h
      · rename_i c2 p2 S2 ans3 ks' hrec
        simp only [Option.some.injEq, Prod.mk.injEq] at h
        obtain ⟨rfl, rfl, rfl, rfl, rfl⟩ := h
        exact glue ⟨putL S.tmps o.dst undef, S.mem⟩ _ _ ⟨hgk, .inl ⟨hw, rfl, rfl, rfl⟩⟩ (evOps_trace os (i + 1) _ _ _ _ _ _ _ hrec hc hp)
      · cases h

theorem evOps_traceG {ops : Array Oper} {gs : List Nat} : ∀ (os : List Oper) (i : Nat) (S S' : St) (ans ans' : List Ans) (c : List Bool) (p : List Prop) (ks : List Nat),
    evOps P ops gs i os S ans = some (c, p, S', ans', ks) → allB c = true → (∀ q ∈ p, q) → (∀ k ∈ ks, k ≠ 2 ∧ k ≠ 3000000004) →
    ∃ T : Nat → St, T 0 = S ∧ T os.length = S' ∧ ∀ (j : Nat) o, os[j]? = some o → StepG P ops o (T j) (T (j + 1)) (ks.getD j 0)
  | [], i, S, S', ans, ans', c, p, ks, h, _, _, _ => by
    simp only [evOps, Option.some.injEq, Prod.mk.injEq] at h
    exact ⟨fun _ => S, rfl, h.2.2.1, fun j o ho => by simp at ho⟩
  | o :: os, i, S, S', ans, ans', c, p, ks, h, hc, hp, hk => by
    have glue : ∀ (S1 : St) (k : Nat) (ks' : List Nat), StepG P ops o S S1 k → (∃ T : Nat → St, T 0 = S1 ∧ T os.length = S' ∧ ∀ (j : Nat) o, os[j]? = some o → StepG P ops o (T j) (T (j + 1)) (ks'.getD j 0)) →
        ∃ T : Nat → St, T 0 = S ∧ T (o :: os).length = S' ∧ ∀ (j : Nat) o', (o :: os)[j]? = some o' → StepG P ops o' (T j) (T (j + 1)) ((k :: ks').getD j 0) := by
      intro S1 k ks' hs ⟨T, h0, h1, h2⟩
      refine ⟨fun j => match j with | 0 => S | j + 1 => T j, rfl, by simpa using h1, fun j o' ho' => ?_⟩
      cases j with
      | zero => simp at ho'; subst ho'; simp only [h0]; exact hs
      | succ j => simp at ho'; exact h2 j o' ho'
    unfold evOps at h
    split at h
    · cases h
    rename_i hgk
    split at h
    · rename_i hw
      split at h
      · rename_i r ans1 hev
        split at h
        · rename_i c1 p1 v ans2 hset
          rw [forceL_eq, forceL_eq] at h
          split at h
          · rename_i c2 p2 S2 ans3 ks' hrec
            simp only [Option.some.injEq, Prod.mk.injEq] at h
            obtain ⟨rfl, rfl, rfl, rfl, rfl⟩ := h
            simp only [allB_cons, Bool.and_eq_true] at hc
            obtain ⟨hok, hc1, hc2⟩ := hc
            have hout := evOp_memG hev hok (fun q hq => hp q (List.mem_append_left _ hq)) (hk _ (List.mem_cons_self ..))
            have hv := settle_spec hset hc1 fun q hq => hp q (List.mem_append_right _ (List.mem_append_left _ hq))
            subst hv
            exact glue _ _ _ ⟨hgk, .inr ⟨hw, r.v, rfl, hout⟩⟩ (evOps_traceG os (i + 1) _ _ _ _ _ _ _ hrec hc2 (fun q hq => hp q (List.mem_append_right _ (List.mem_append_right _ hq))) fun k hk' => hk k (List.mem_cons_of_mem _ hk'))
          · cases h
        · cases h
      · cases h
    · rename_i hw
      split at h
      · rename_i c2 p2 S2 ans3 ks' hrec
        simp only [Option.some.injEq, Prod.mk.injEq] at h
        obtain ⟨rfl, rfl, rfl, rfl, rfl⟩ := h
        exact glue ⟨putL S.tmps o.dst undef, S.mem⟩ _ _ ⟨hgk, .inl ⟨hw, rfl, rfl, rfl⟩⟩ (evOps_traceG os (i + 1) _ _ _ _ _ _ _ hrec hc hp fun k hk' => hk k (List.mem_cons_of_mem _ hk'))
      · cases h

/-! ### Code -/
structure Res where
  ok : List Bool
  obs : List Prop
  e : Exit
  S : St
  ans : List Ans

def Res.and (r r2 : Res) : Res := ⟨r.ok ++ r2.ok, r.obs ++ r2.obs, r2.e, r2.S, r2.ans⟩

/-- A loop from the head of a round. -/
def TriL (P : Program) (c : Code) (S : St) (Q : Exit → St → Prop) : Prop :=
  ∀ ρ a w, ARel ρ S a w → ∀ (b : Frame) (k : List Item) (cs : List Frame),
    ∃ e a' w', (∃ S' ρ', Q e S' ∧ ARel ρ' S' a' w' ∧ Mv ρ S.mem w ρ' S'.mem w') ∧ Arrives P (lone (b.at a (.code c :: .inLoop c :: k)) cs w) b k cs e a' w'
def thenL (P : Program) (c : Code) (Q : Exit → St → Prop) : Exit → St → Prop
  | .normal, S => TriL P c S Q
  | e, S => Q e S
theorem TriL.step {c : Code} {S : St} {Q : Exit → St → Prop} (h : Tri P c S (thenL P c Q)) : TriL P c S Q := by
  intro ρ a w hr b k cs
  obtain ⟨e, a1, w1, ⟨S1, ρ1, q, r1, m1⟩, harr⟩ := h ρ a w hr b (.inLoop c :: k) cs
  cases e with
  | normal =>
    obtain ⟨e2, a2, w2, ⟨S2, ρ2, q2, r2, m2⟩, harr2⟩ := q ρ1 a1 w1 r1 b k cs
    exact ⟨e2, a2, w2, ⟨S2, ρ2, q2, r2, m1.trans hr.mem m2⟩, .of_steps (Steps.trans harr (.one step_inLoop)) harr2⟩
  | exit id => exact ⟨_, a1, w1, ⟨S1, ρ1, q, r1, m1⟩, .pass (x := .inLoop c) rfl (fun _ _ => .inl (by simp)) harr⟩
  | goto l => exact ⟨_, a1, w1, ⟨S1, ρ1, q, r1, m1⟩, .pass (x := .inLoop c) rfl (fun _ _ => .inl (by simp)) harr⟩
  | ret => exact ⟨_, a1, w1, ⟨S1, ρ1, q, r1, m1⟩, .pass (x := .inLoop c) rfl (fun _ _ => .inl (by simp)) harr⟩
  | panic ch => exact ⟨_, a1, w1, ⟨S1, ρ1, q, r1, m1⟩, .pass (x := .inLoop c) rfl (fun _ _ => .inl (by simp)) harr⟩
  | outgrown => exact ⟨_, a1, w1, ⟨S1, ρ1, q, r1, m1⟩, .pass (x := .inLoop c) rfl (fun _ _ => .inl (by simp)) harr⟩
theorem TriL.tri {c : Code} {S : St} {Q : Exit → St → Prop} (h : TriL P c S Q) : Tri P (.loop c) S Q := by
  intro ρ a w hr b k cs
  obtain ⟨e, a', w', hq, harr⟩ := h ρ a w hr b k cs
  exact ⟨e, a', w', hq, .of_steps (.one step_loop) harr⟩
theorem TriL.unmask {c : Code} {S : St} {Q : Exit → St → Prop} (live : List Nat) (h : TriL P c (maskS live S) Q) : TriL P c S Q :=
  fun ρ a w hr => h ρ a w (hr.mask live)
/-- A loop of n rounds, state by state, and then out. -/
theorem TriL.count {c : Code} {e : Exit} {S' : St} (st : Nat → St) (he : e ≠ .normal) (n : Nat) (hr : ∀ i, i < n → Tri P c (st i) (to .normal (st (i + 1)))) (hend : Tri P c (st n) (to e S')) : TriL P c (st 0) (to e S') := by
  have key : ∀ m i, i + m = n → TriL P c (st i) (to e S') := by
    intro m
    induction m with
    | zero =>
      intro i hi
      have : i = n := by omega
      subst this
      refine TriL.step (hend.mono ?_)
      rintro e1 S1 ⟨rfl, rfl⟩
      unfold thenL
      split
      · exact absurd rfl he
      · exact ⟨rfl, rfl⟩
    | succ m ih =>
      intro i hi
      refine TriL.step ((hr i (by omega)).mono ?_)
      rintro e1 S1 ⟨rfl, rfl⟩
      exact ih (i + 1) (by omega)
  exact key n 0 (by omega)
theorem TriL.mono {c : Code} {S : St} {Q Q' : Exit → St → Prop} (h : TriL P c S Q) (hq : ∀ e S, Q e S → Q' e S) : TriL P c S Q' :=
  fun ρ a w hr b k cs => let ⟨e, a', w', ⟨S', ρ', q, r⟩, harr⟩ := h ρ a w hr b k cs; ⟨e, a', w', ⟨S', ρ', hq _ _ q, r⟩, harr⟩

/-! ### Jumps -/
/-- A piece of a scope, and on from there. -/
def TriG (P : Program) (body rest : Code) (S : St) (Q : Exit → St → Prop) : Prop :=
  ∀ ρ a w, ARel ρ S a w → ∀ (b : Frame) (k : List Item) (cs : List Frame),
    ∃ e a' w', (∃ S' ρ', Q e S' ∧ ARel ρ' S' a' w' ∧ Mv ρ S.mem w ρ' S'.mem w') ∧ Arrives P (lone (b.at a (.code rest :: .inScope body :: k)) cs w) b k cs e a' w'
def thenG (P : Program) (body : Code) (Q : Exit → St → Prop) : Exit → St → Prop
  | .goto l, S => match findLabel body l with | some rest => TriG P body rest S Q | none => Q (.goto l) S
  | e, S => Q e S
theorem TriG.step {body rest : Code} {S : St} {Q : Exit → St → Prop} (h : Tri P rest S (thenG P body Q)) : TriG P body rest S Q := by
  intro ρ a w hr b k cs
  obtain ⟨e, a1, w1, ⟨S1, ρ1, q, r1, m1⟩, harr⟩ := h ρ a w hr b (.inScope body :: k) cs
  cases e with
  | normal => exact ⟨.normal, a1, w1, ⟨S1, ρ1, q, r1, m1⟩, Steps.trans harr (.one step_inScope)⟩
  | exit id => exact ⟨.exit id, a1, w1, ⟨S1, ρ1, q, r1, m1⟩, fun k' hk => harr k' (by simp [exitTo, hk])⟩
  | goto l =>
    cases hf : findLabel body l with
    | none =>
      simp only [thenG, hf] at q
      exact ⟨.goto l, a1, w1, ⟨S1, ρ1, q, r1, m1⟩, fun k' hk => harr k' (by simp [gotoIn, hf, hk])⟩
    | some rest' =>
      simp only [thenG, hf] at q
      have hg : gotoIn l (.inScope body :: k) = some (.code rest' :: .inScope body :: k) := by simp [gotoIn, hf]
      obtain ⟨e2, a2, w2, ⟨S2, ρ2, q2, r2, m2⟩, harr2⟩ := q ρ1 a1 w1 r1 b k cs
      exact ⟨e2, a2, w2, ⟨S2, ρ2, q2, r2, m1.trans hr.mem m2⟩, .of_steps (harr _ hg) harr2⟩
  | ret => exact ⟨_, a1, w1, ⟨S1, ρ1, q, r1, m1⟩, harr⟩
  | panic ch => exact ⟨_, a1, w1, ⟨S1, ρ1, q, r1, m1⟩, harr⟩
  | outgrown => exact ⟨_, a1, w1, ⟨S1, ρ1, q, r1, m1⟩, harr⟩
theorem TriG.tri {body : Code} {S : St} {Q : Exit → St → Prop} (h : TriG P body body S Q) : Tri P (.scope body) S Q := by
  intro ρ a w hr b k cs
  obtain ⟨e, a', w', hq, harr⟩ := h ρ a w hr b k cs
  exact ⟨e, a', w', hq, .of_steps (.one step_scope) harr⟩
theorem TriG.unmask {body rest : Code} {S : St} {Q : Exit → St → Prop} (live : List Nat) (h : TriG P body rest (maskS live S) Q) : TriG P body rest S Q :=
  fun ρ a w hr => h ρ a w (hr.mask live)
theorem TriG.mono {body rest : Code} {S : St} {Q Q' : Exit → St → Prop} (h : TriG P body rest S Q) (hq : ∀ e S, Q e S → Q' e S) : TriG P body rest S Q' :=
  fun ρ a w hr b k cs => let ⟨e, a', w', ⟨S', ρ', q, r⟩, harr⟩ := h ρ a w hr b k cs; ⟨e, a', w', ⟨S', ρ', hq _ _ q, r⟩, harr⟩
/-- Jumps back to one label, state by state, and then out. -/
theorem TriG.count {body rest : Code} {l : Nat} {e : Exit} {S' : St} (st : Nat → St) (he : ∀ l, e ≠ .goto l) (hl : findLabel body l = some rest) (n : Nat) (hr : ∀ i, i < n → Tri P rest (st i) (to (.goto l) (st (i + 1)))) (hend : Tri P rest (st n) (to e S')) : TriG P body rest (st 0) (to e S') := by
  have key : ∀ m i, i + m = n → TriG P body rest (st i) (to e S') := by
    intro m
    induction m with
    | zero =>
      intro i hi
      have : i = n := by omega
      subst this
      refine TriG.step (hend.mono ?_)
      rintro e1 S1 ⟨rfl, rfl⟩
      unfold thenG
      split
      · exact absurd rfl (he _)
      · exact ⟨rfl, rfl⟩
    | succ m ih =>
      intro i hi
      refine TriG.step ((hr i (by omega)).mono ?_)
      rintro e1 S1 ⟨rfl, rfl⟩
      simp only [thenG, hl]
      exact ih (i + 1) (by omega)
  exact key n 0 (by omega)
/-- A scope's text: a piece, and on from the label that it jumps to. -/
def evScope (P : Program) (ev : Code → St → List Ans → Option Res) (body : Code) : Nat → Code → St → List Ans → Option Res
  | 0, _, _, _ => none
  | m + 1, rest, S, ans =>
    match ev rest S ans with
    | some r => match r.e with
      | .goto l => match findLabel body l with
        | some rest' => match r.ans with
          | .cut live e S' :: ans' => some ⟨r.ok, r.obs ++ [TriG P body rest' (maskS live r.S) (to e S')], e, S', ans'⟩
          | _ => match evScope P ev body m rest' r.S r.ans with
            | some r2 => some (r.and r2)
            | none => none
        | none => some r
      | _ => some r
    | none => none

def evC (P : Program) : Nat → Code → St → List Ans → Option Res
  | 0, _, _, _ => none
  | n + 1, c, S, ans =>
    match c with
    | .skip | .label _ => some ⟨[], [], .normal, S, ans⟩
    | .region _ ops draw =>
      match evOps P ops (guardsOf ops.toList) 0 ops.toList S ans with
      | some (ok, obs, S', ans', ks) => if !draw || (fitsB ops (classes S.mem.length ks) || fitsG ops ks) then some ⟨ok, obs, .normal, S', ans'⟩ else none
      | none => none
    | .seq a b =>
      match evC P n a S ans with
      | some r => match r.e with
        | .normal => match evC P n b r.S r.ans with
          | some r2 => some (r.and r2)
          | none => none
        | _ => some r
      | none => none
    | .cond c x y =>
      match S.eval c, ans with
      | some (.bool b), .tst t :: ans' => match evC P n (if t then x else y) S ans' with
        | some r => some { r with ok := eqB b t :: r.ok }
        | none => none
      | _, .tst _ :: _ => none
      | some (.bool true), .auto :: ans' => evC P n x S ans'
      | some (.bool false), .auto :: ans' => evC P n y S ans'
      | some (.bool true), ans => evC P n x S ans
      | some (.bool false), ans => evC P n y S ans
      | _, _ => none
    | .block id body =>
      match evC P n body S ans with
      | some r => match r.e with
        | .exit id' => if id' = id then some { r with e := .normal } else some r
        | _ => some r
      | none => none
    | .loop body =>
      match ans with
      | .cut live e S' :: ans' => some ⟨[], [TriL P body (maskS live S) (to e S')], e, S', ans'⟩
      | ans =>
      match evC P n body S ans with
      | some r => match r.e with
        | .normal => match evC P n (.loop body) r.S r.ans with
          | some r2 => some (r.and r2)
          | none => none
        | _ => some r
      | none => none
    | .scope body => evScope P (evC P n) body n body S ans
    | .exit id => some ⟨[], [], .exit id, S, ans⟩
    | .goto l => some ⟨[], [], .goto l, S, ans⟩
    | .ret => some ⟨[], [], .ret, S, ans⟩
    | _ => none

/-- The end that a result tells. -/
def Res.Q (r : Res) : Exit → St → Prop := fun e S => e = r.e ∧ S = r.S

theorem Res.and_sound {r r2 : Res} (hok : allB (r.and r2).ok = true) (hobs : ∀ p ∈ (r.and r2).obs, p) : (allB r.ok = true ∧ ∀ p ∈ r.obs, p) ∧ allB r2.ok = true ∧ ∀ p ∈ r2.obs, p := by
  simp only [Res.and, allB_append, Bool.and_eq_true] at hok
  exact ⟨⟨hok.1, fun p hp => hobs p (List.mem_append_left _ hp)⟩, hok.2, fun p hp => hobs p (List.mem_append_right _ hp)⟩

theorem evScope_sound {ev : Code → St → List Ans → Option Res} (hev : ∀ c S ans r, ev c S ans = some r → allB r.ok = true → (∀ p ∈ r.obs, p) → Tri P c S r.Q) (body : Code) : ∀ (m : Nat) (rest : Code) (S : St) (ans : List Ans) (r : Res), evScope P ev body m rest S ans = some r → allB r.ok = true → (∀ p ∈ r.obs, p) → TriG P body rest S r.Q
  | 0, _, _, _, _, h, _, _ => by cases h
  | m + 1, rest, S, ans, r, h, hok, hobs => by
    unfold evScope at h
    split at h
    · rename_i r1 h1
      split at h
      · rename_i l he
        split at h
        · rename_i rest' hf
          split at h
          · rename_i live e S' ans' ha
            cases h
            refine TriG.step ((hev rest S ans r1 h1 hok fun p hp => hobs p (List.mem_append_left _ hp)).mono ?_)
            rintro e1 S1 ⟨rfl, rfl⟩
            rw [he]
            simp only [thenG, hf]
            exact TriG.unmask live (hobs _ (List.mem_append_right _ (List.mem_singleton.2 rfl)))
          · split at h
            · rename_i r2 h2
              cases h
              obtain ⟨⟨o1, p1⟩, o2, p2⟩ := Res.and_sound hok hobs
              refine TriG.step ((hev rest S ans r1 h1 o1 p1).mono ?_)
              rintro e1 S1 ⟨rfl, rfl⟩
              rw [he]
              simp only [thenG, hf]
              exact evScope_sound hev body m rest' r1.S r1.ans r2 h2 o2 p2
            · cases h
        · rename_i hf
          cases h
          refine TriG.step ((hev rest S ans _ h1 hok hobs).mono ?_)
          rintro e1 S1 ⟨rfl, rfl⟩
          rw [he]
          simp only [thenG, hf]
          exact ⟨he.symm, rfl⟩
      · rename_i hne
        cases h
        refine TriG.step ((hev rest S ans _ h1 hok hobs).mono ?_)
        rintro e1 S1 ⟨rfl, rfl⟩
        unfold thenG
        split
        · rename_i l he; exact absurd he (hne l)
        · exact ⟨rfl, rfl⟩
    · cases h
theorem evC_sound (hm : P.follows .mixedOrders = true) : ∀ (n : Nat) (c : Code) (S : St) (ans : List Ans) (r : Res), evC P n c S ans = some r → allB r.ok = true → (∀ p ∈ r.obs, p) →
    Tri P c S r.Q ∧ ∀ body, c = .loop body → TriL P body S r.Q
  | 0, _, _, _, _, h, _, _ => by simp [evC] at h
  | n + 1, c, S, ans, r, h, hok, hobs => by
    have ih := evC_sound hm n
    unfold evC at h
    cases c with
    | skip => cases h; exact ⟨.skip ⟨rfl, rfl⟩, fun _ e => by cases e⟩
    | label l => cases h; exact ⟨.label ⟨rfl, rfl⟩, fun _ e => by cases e⟩
    | region id ops draw =>
      refine ⟨?_, fun _ e => by cases e⟩
      simp only at h
      split at h
      · rename_i ok obs S' ans' ks hev
        split at h
        · rename_i hf
          cases h
          obtain ⟨T, h0, h1, h2⟩ := evOps_trace _ _ _ _ _ _ _ _ _ hev hok hobs
          have hT : Trace P ops T (fun i => (classes S.mem.length ks).getD i 0) := by
            have := trace_of_steps (P := P) (ops := ops) (T := T) (cs := ks) (by rw [evOps_len _ _ _ _ _ _ _ _ _ hev]; simp) fun j o ho => h2 j o (by rw [Array.getElem?_toList]; exact ho)
            rw [h0] at this
            exact this
          rw [← h0]
          cases draw with
          | false =>
            refine region_of_trace hm hT (fun hd => by cases hd) ⟨rfl, ?_⟩
            simpa using h1
          | true =>
            simp only [Bool.not_true, Bool.false_or, Bool.or_eq_true] at hf
            rcases hf with hf | hf
            · refine region_of_trace hm hT (fun _ => fitsB_spec (by rw [h0] at *; exact hf)) ⟨rfl, ?_⟩
              simpa using h1
            · obtain ⟨hF, hne⟩ := fitsG_spec hf
              obtain ⟨T', g0, g1, g2⟩ := evOps_traceG _ _ _ _ _ _ _ _ _ hev hok hobs hne
              have hT' : TraceG P ops T' (fun i => ks.getD i 0) := fun i hi => ⟨ops[i], Array.getElem?_eq_getElem hi, g2 i _ (by rw [Array.getElem?_toList]; exact Array.getElem?_eq_getElem hi)⟩
              rw [h0, ← g0]
              refine region_of_traceG hm hT' hF ⟨rfl, ?_⟩
              simpa using g1
        · cases h
      · cases h
    | seq a b =>
      refine ⟨?_, fun _ e => by cases e⟩
      simp only at h
      split at h
      · rename_i r1 h1
        split at h
        · rename_i he
          split at h
          · rename_i r2 h2
            cases h
            obtain ⟨⟨o1, p1⟩, o2, p2⟩ := Res.and_sound hok hobs
            refine Tri.seq ((ih a S ans r1 h1 o1 p1).1.mono ?_)
            rintro e S1 ⟨rfl, rfl⟩
            rw [he]
            exact (ih b r1.S r1.ans r2 h2 o2 p2).1
          · cases h
        · rename_i hne
          cases h
          refine Tri.seq ((ih a S ans _ h1 hok hobs).1.mono ?_)
          rintro e S1 ⟨rfl, rfl⟩
          unfold thenQ
          split
          · rename_i he; exact absurd he hne
          · exact ⟨rfl, rfl⟩
      · cases h
    | cond c x y =>
      refine ⟨?_, fun _ e => by cases e⟩
      simp only at h
      split at h
      · rename_i b t ans' hc
        split at h
        · rename_i r1 h1
          cases h
          simp only [allB_cons, Bool.and_eq_true] at hok
          obtain ⟨h0, hok⟩ := hok
          rw [eqB_eq h0] at hc
          exact Tri.cond hc (ih _ S ans' r1 h1 hok hobs).1
        · cases h
      · cases h
      · exact Tri.cond (t := true) (by assumption) (ih _ S _ r h hok hobs).1
      · exact Tri.cond (t := false) (by assumption) (ih _ S _ r h hok hobs).1
      · exact Tri.cond (t := true) (by assumption) (ih _ S _ r h hok hobs).1
      · exact Tri.cond (t := false) (by assumption) (ih _ S _ r h hok hobs).1
      · cases h
    | block id body =>
      refine ⟨?_, fun _ e => by cases e⟩
      simp only at h
      split at h
      · rename_i r1 h1
        refine Tri.block ?_
        split at h
        · rename_i id' he
          split at h
          · rename_i hid
            cases h
            refine (ih body S ans r1 h1 hok hobs).1.mono ?_
            rintro e S1 ⟨rfl, rfl⟩
            rw [he]
            simp only [inBlockQ]
            rw [if_pos hid]
            exact ⟨rfl, rfl⟩
          · rename_i hid
            cases h
            refine (ih body S ans _ h1 hok hobs).1.mono ?_
            rintro e S1 ⟨rfl, rfl⟩
            rw [he]
            simp only [inBlockQ]
            rw [if_neg hid]
            exact ⟨he.symm, rfl⟩
        · rename_i hne
          cases h
          refine (ih body S ans _ h1 hok hobs).1.mono ?_
          rintro e S1 ⟨rfl, rfl⟩
          unfold inBlockQ
          split
          · rename_i he; exact absurd he (hne _)
          · exact ⟨rfl, rfl⟩
      · cases h
    | loop body =>
      have key : TriL P body S r.Q := by
        simp only at h
        split at h
        · cases h
          exact TriL.unmask _ (hobs _ (List.mem_singleton.2 rfl))
        split at h
        · rename_i r1 h1
          split at h
          · rename_i he
            split at h
            · rename_i r2 h2
              cases h
              obtain ⟨⟨o1, p1⟩, o2, p2⟩ := Res.and_sound hok hobs
              refine TriL.step ((ih body S ans r1 h1 o1 p1).1.mono ?_)
              rintro e S1 ⟨rfl, rfl⟩
              rw [he]
              exact (ih (.loop body) r1.S r1.ans r2 h2 o2 p2).2 body rfl
            · cases h
          · rename_i hne
            cases h
            refine TriL.step ((ih body S ans _ h1 hok hobs).1.mono ?_)
            rintro e S1 ⟨rfl, rfl⟩
            unfold thenL
            split
            · rename_i he; exact absurd he hne
            · exact ⟨rfl, rfl⟩
        · cases h
      exact ⟨key.tri, fun b e => by cases e; exact key⟩
    | exit id => cases h; exact ⟨.exit ⟨rfl, rfl⟩, fun _ e => by cases e⟩
    | goto l => cases h; exact ⟨.goto ⟨rfl, rfl⟩, fun _ e => by cases e⟩
    | ret => cases h; exact ⟨.ret ⟨rfl, rfl⟩, fun _ e => by cases e⟩
    | rangeFunc => cases h
    | scope body =>
      refine ⟨TriG.tri (evScope_sound (fun c S ans r h1 h2 h3 => (ih c S ans r h1 h2 h3).1) body n body S ans r h hok hobs), fun _ e => by cases e⟩
    | refuse => cases h

/-- The loops of a code, from without and from the front. -/
def loopsOf : Code → List Code
  | .loop c => c :: loopsOf c
  | .seq a b => loopsOf a ++ loopsOf b
  | .cond _ a b => loopsOf a ++ loopsOf b
  | .block _ c => loopsOf c
  | .scope c => loopsOf c
  | _ => []
def loopN (fn : Func) (k : Nat) : Code := match fn.body with
  | some c => match (loopsOf c)[k]? with
    | some b => b
    | none => .skip
  | none => .skip
/-- A piece of code from a state to a state: what its text gives, of the slots that are named. -/
def evM (P : Program) (c : Code) (fuel : Nat) (live : List Nat) (S : St) (ans : List Ans) : Option (Bool × List Prop × Exit × St) :=
  match evC P fuel c S ans with
  | some r => some (allB r.ok, r.obs, r.e, maskS live r.S)
  | none => none
/-! ### Functions -/
def resVar (P : Program) (S : St) : ResultVar → Option (Bool × Value)
  | .tmp t => if isTuple (S.tmps.getD t undef) then none else some (true, S.tmps.getD t undef)
  | .cell a t => loadOp P S.mem t (S.tmps.getD a undef)
def resVars (P : Program) (S : St) : List ResultVar → Option (Bool × List Value)
  | [] => some (true, [])
  | x :: xs => match resVar P S x, resVars P S xs with
    | some (c, v), some (c2, vs) => some (c && c2, v :: vs)
    | _, _ => none
def oneOrTuple : List Value → Value
  | [v] => v
  | vs => .tuple vs.toArray
def resOf (P : Program) (fn : Func) (S : St) : Option (Bool × Value) :=
  match resVars P S fn.results.toList with
  | some (c, vs) => some (c, oneOrTuple vs)
  | none => none

theorem loadOp_noTuple {mem : Mem} {t : TypeId} {x v : Value} {ρ : Ren} {w : World} {u : Value} (h : loadOp P mem t x = some (true, v)) (hx : VR ρ x u) (hM : MRel ρ mem w) : ∃ r, VR2 ρ v r ∧ (Instr.loadAt t u).run P w = .ok r w := by
  obtain ⟨r, hr, hrun⟩ := loadOp_sound h (fun _ _ h => h) hx hM
  refine ⟨r, ?_, hrun⟩
  rw [← VR_of2 ?_]; exact hr
  intro vs hvs
  subst hvs
  unfold loadOp at h
  split at h
  · rename_i k off
    obtain ⟨b, s, hρ, rfl⟩ := VR_ptr.1 hx
    split at h
    · rename_i B hB
      split at h
      · simp at h
      · split at h
        · simp only [Option.some.injEq, Prod.mk.injEq, decide_eq_true_eq] at h
          obtain ⟨hlt, he⟩ := h
          have hg : B.cells[off]? = some (.tuple vs) := by rw [← he, List.getD_eq_getElem?_getD, List.getElem?_eq_getElem hlt]; rfl
          obtain ⟨u, hu, _⟩ := hM.cellAt hρ hB hg
          cases hu
        · cases h
    · cases h
  · cases h

/-- A result as the machine reads it. -/
def resSem (a : Act) : ResultVar → Sem Value
  | .tmp t => pure (a.tmps.getD t undef)
  | .cell p t => do loadVar t (← asAddr (a.tmps.getD p undef))
theorem resVar_sound {S : St} {x : ResultVar} {v : Value} {ρ : Ren} {a : Act} {w : World} (h : resVar P S x = some (true, v)) (hr : ARel ρ S a w) :
    ∃ u, VR2 ρ v u ∧ (resSem a x).run P w = .ok u w := by
  have hget : ∀ t, VR ρ (S.tmps.getD t undef) (a.tmps.getD t undef) := fun t => by
    have := hr.tmps.getD t (VR_undef (ρ := ρ))
    simpa using this
  cases x with
  | tmp t =>
    simp only [resVar] at h
    split at h
    · cases h
    · rename_i hn
      cases h
      refine ⟨a.tmps.getD t undef, ?_, rfl⟩
      rw [← VR_of2 (fun vs hvs => hn (by rw [hvs]; rfl))]
      exact hget t
  | cell p t =>
    simp only [resVar] at h
    obtain ⟨u, hu, hrun⟩ := loadOp_noTuple h (hget p) hr.mem
    refine ⟨u, hu, ?_⟩
    unfold loadOp at h
    split at h
    · rename_i k off hp
      have := hget p
      rw [hp] at this
      obtain ⟨b, s, hρ, he⟩ := VR_ptr.1 this
      rw [he] at hrun
      simp only [resSem, he]
      simpa [Instr.loadAt, Instr.sureAddr, asAddr] using hrun
    · cases h

theorem resVars_sound {S : St} {ρ : Ren} {a : Act} {w : World} (hr : ARel ρ S a w) : ∀ (xs : List ResultVar) (vs : List Value), resVars P S xs = some (true, vs) →
    ∃ us, PW (VR2 ρ) vs us ∧ (xs.mapM (resSem a)).run P w = .ok us w
  | [], vs, h => by simp only [resVars, Option.some.injEq, Prod.mk.injEq, true_and] at h; subst h; exact ⟨[], PW.nil, by simp⟩
  | x :: xs, vs, h => by
    unfold resVars at h
    split at h
    · rename_i c v c2 vs' h1 h2
      simp only [Option.some.injEq, Prod.mk.injEq, Bool.and_eq_true] at h
      obtain ⟨⟨rfl, rfl⟩, rfl⟩ := h
      obtain ⟨u, hu, hrun⟩ := resVar_sound h1 hr
      obtain ⟨us, hus, hruns⟩ := resVars_sound hr xs vs' h2
      refine ⟨u :: us, PW.cons hu hus, ?_⟩
      rw [List.mapM_cons, Sem.run_bind, hrun]
      simp only [Result.andThen_ok, Sem.run_bind, hruns, Sem.run_pure]
    · cases h

theorem resOf_sound {fn : Func} {S : St} {v : Value} {ρ : Ren} {a : Act} {w : World} (h : resOf P fn S = some (true, v)) (hr : ARel ρ S a w) : ∃ u, VR ρ v u ∧ (results fn a.tmps).run P w = .ok u w := by
  unfold resOf at h
  split at h
  · rename_i c vs hv
    cases h
    obtain ⟨us, hus, hrun⟩ := resVars_sound hr _ _ hv
    have hres : (results fn a.tmps).run P w = .ok (if h : us.toArray.size = 1 then us.toArray[0] else .tuple us.toArray) w := by
      have he : results fn a.tmps = (fn.results.mapM (resSem a) >>= fun vs => pure (if h : vs.size = 1 then vs[0] else .tuple vs)) := rfl
      rw [he, Array.mapM_eq_mapM_toList]
      simp only [Sem.run_bind, Sem.run_map, hrun, Result.andThen_ok, Sem.run_pure]
    have hl := hus.1
    match vs, us, hus, hl, hres with
    | [], [], hus, _, hres => exact ⟨_, (VR_tuple rfl).2 ⟨#[], rfl, PW.nil⟩, by simpa using hres⟩
    | [v], [u], hus, _, hres => exact ⟨u, (hus.2 0 v u rfl rfl).toVR, by simpa using hres⟩
    | v :: v2 :: vs, u :: u2 :: us, hus, _, hres => exact ⟨.tuple (u :: u2 :: us).toArray, (VR_tuple rfl).2 ⟨_, rfl, hus⟩, by simpa using hres⟩
  · cases h

def Exit.isEnd : Exit → Bool
  | .normal | .ret => true
  | _ => false

/-! ### The same relation with other deferred calls -/
def Ren.wd (ρ : Ren) (d : List Deferred) : Ren := ⟨ρ.m, ρ.h, d, ρ.g⟩
theorem rA_wd (ρ : Ren) (d : List Deferred) (a : Addr) : rA (ρ.wd d) a = rA ρ a := rfl
theorem rP_wd (ρ : Ren) (d : List Deferred) (v : Value) : rP (ρ.wd d) v = rP ρ v := by
  unfold rP
  simp only [rA_wd]
theorem rPL_wd (ρ : Ren) (d : List Deferred) : ∀ l : List Value, rPL (ρ.wd d) l = rPL ρ l
  | [] => rfl
  | v :: l => by simp only [rPL, rP_wd, rPL_wd ρ d l]
theorem rC_wd (ρ : Ren) (d : List Deferred) (v : Value) : rC (ρ.wd d) v = rC ρ v := by
  unfold rC
  simp only [rA_wd, rPL_wd]
theorem VR1_wd {ρ : Ren} {d : List Deferred} {v u : Value} : VR1 (ρ.wd d) v u ↔ VR1 ρ v u := by
  have e : tokR (ρ.wd d) v u = tokR ρ v u := by unfold tokR lstR; rfl
  unfold VR1
  rw [rC_wd, e]
theorem VR2_wd {ρ : Ren} {d : List Deferred} {v u : Value} : VR2 (ρ.wd d) v u ↔ VR2 ρ v u := by
  by_cases hc : ∃ cs, v = .agg cs
  · obtain ⟨cs, rfl⟩ := hc
    rw [VR2_agg, VR2_agg]
    exact ⟨fun ⟨us, h1, h2⟩ => ⟨us, h1, h2.mono fun _ _ => VR1_wd.1⟩, fun ⟨us, h1, h2⟩ => ⟨us, h1, h2.mono fun _ _ => VR1_wd.2⟩⟩
  · have hne : ∀ cs, v ≠ .agg cs := fun cs e => hc ⟨cs, e⟩
    rw [VR2_of1 hne, VR2_of1 hne]
    exact VR1_wd
theorem VR_wd {ρ : Ren} {d : List Deferred} {v u : Value} : VR (ρ.wd d) v u ↔ VR ρ v u := by
  by_cases hc : ∃ cs, v = .tuple cs
  · obtain ⟨cs, rfl⟩ := hc
    show (_ ∨ _) ↔ (_ ∨ _)
    refine or_congr_right ⟨fun ⟨us, h1, h2⟩ => ⟨us, h1, h2.mono fun _ _ => VR2_wd.1⟩, fun ⟨us, h1, h2⟩ => ⟨us, h1, h2.mono fun _ _ => VR2_wd.2⟩⟩
  · have hne : ∀ cs, v ≠ .tuple cs := fun cs e => hc ⟨cs, e⟩
    rw [VR_of2 hne, VR_of2 hne]
    exact VR2_wd
theorem MRel_wd {ρ : Ren} {d : List Deferred} {mem : Mem} {w : World} : MRel (ρ.wd d) mem w ↔ MRel ρ mem w :=
  ⟨fun h => ⟨fun k b s hk => let ⟨B, h1, h2, h3⟩ := h.cell k b s hk; ⟨B, h1, h2, fun i v hv => ⟨let ⟨u, hu, hw⟩ := (h3 i v hv).1; ⟨u, VR1_wd.1 hu, hw⟩, (h3 i v hv).2⟩⟩, h.apart, h.froz, ⟨fun b x hx => (h.lists.lst b x hx).move (Nat.le_refl _) rfl (h.lists.lst b x hx).nomap (h.lists.lst b x hx).noh LB.same, h.lists.lmap⟩⟩,
   fun h => ⟨fun k b s hk => let ⟨B, h1, h2, h3⟩ := h.cell k b s hk; ⟨B, h1, h2, fun i v hv => ⟨let ⟨u, hu, hw⟩ := (h3 i v hv).1; ⟨u, VR1_wd.2 hu, hw⟩, (h3 i v hv).2⟩⟩, h.apart, h.froz, ⟨fun b x hx => (h.lists.lst b x hx).move (Nat.le_refl _) rfl (h.lists.lst b x hx).nomap (h.lists.lst b x hx).noh LB.same, h.lists.lmap⟩⟩⟩
/-- A callee's deferred calls are its own. -/
theorem Mv_wd {ρ ρ' : Ren} {d : List Deferred} {m m' : Mem} {w w' : World} (h : Mv (ρ.wd d) m w ρ' m' w') : Mv ρ m w (ρ'.wd ρ.d) m' w' :=
  ⟨⟨h.sub.m, h.sub.h, rfl, h.sub.g⟩, h.new, h.kept, h.os, h.tape, h.output, h.size, h.block, h.newh, h.newg⟩
/-- A function's body from its arguments on, as states. -/
theorem CT.of_tri {f : FuncId} {fn : Func} {c : Code} (hf : P.funcs[f]? = some fn) (hb : fn.body = some c) {args : List Value} {mem : Mem} {Q : Value → Mem → Prop}
    (h : Tri P c ⟨args ++ List.replicate (fn.ntmps - args.length) undef, mem⟩ fun e S => Exit.isEnd e = true ∧ ∃ v, resOf P fn S = some (true, v) ∧ Q v S.mem) : CT P f args mem Q := by
  intro ρ w us hus hM
  refine calls_of_wp hf hb ?_
  have hlen : us.length = args.length := hus.1.symm
  refine wp_mono (h (ρ.wd []) _ w ⟨?_, rfl, MRel_wd.2 hM⟩) ?_
  · simp only [List.size_toArray, hlen]
    simp only [Array.toList_append, Array.toList_replicate]
    exact (hus.mono fun _ _ => VR_wd.2).append (PW.replicate _ VR_undef)
  · rintro e a' w' ⟨S', ρ', ⟨he, v, hv, hq⟩, hr, hmv⟩
    obtain ⟨u, hu, hrun⟩ := resOf_sound hv hr
    have hd : a'.defers = [] := hr.defers.trans hmv.sub.d
    have key : ∃ v, (results fn a'.tmps).run P w' = .ok v w' ∧ ∃ v' mem' ρ' u, Ending.returned v = .returned u ∧ Q v' mem' ∧ VR ρ' v' u ∧ MRel ρ' mem' w' ∧ Mv ρ mem w ρ' mem' w' :=
      ⟨u, hrun, v, S'.mem, ρ'.wd ρ.d, u, rfl, hq, VR_wd.2 hu, MRel_wd.2 hr.mem, Mv_wd hmv⟩
    cases e with
    | normal => exact ⟨hd, key⟩
    | ret => exact ⟨hd, key⟩
    | exit id => cases he
    | goto l => cases he
    | panic ch => cases he
    | outgrown => cases he

structure FRes where
  ok : Bool
  obs : List Prop
  v : Value
  mem : Mem

def evFn (P : Program) (fn : Func) (fuel : Nat) (args : List Value) (mem : Mem) (ans : List Ans) : Option FRes :=
  match fn.body with
  | some c => match evC P fuel c ⟨args ++ List.replicate (fn.ntmps - args.length) undef, mem⟩ ans with
    | some r => if Exit.isEnd r.e then
        match resOf P fn r.S with
        | some (c2, v) => some ⟨allB (r.ok ++ [c2]), r.obs, v, r.S.mem⟩
        | none => none
      else none
    | none => none
  | none => none

theorem CT.of_ev (hm : P.follows .mixedOrders = true) {f : FuncId} {fn : Func} (hf : P.funcs[f]? = some fn) {fuel : Nat} {args : List Value} {mem : Mem} {ans : List Ans} {r : FRes}
    (h : evFn P fn fuel args mem ans = some r) (hok : r.ok = true) (hobs : ∀ p ∈ r.obs, p) : CT P f args mem fun v m => v = r.v ∧ m = r.mem := by
  unfold evFn at h
  split at h
  · rename_i c hb
    split at h
    · rename_i r1 h1
      split at h
      · rename_i he
        split at h
        · rename_i c2 v hv
          cases h
          simp only [allB_append, allB_cons, Bool.and_eq_true] at hok
          obtain ⟨hok, rfl, _⟩ := hok
          refine CT.of_tri hf hb ((evC_sound hm _ _ _ _ _ h1 hok hobs).1.mono ?_)
          rintro e S ⟨rfl, rfl⟩
          exact ⟨he, v, hv, rfl, rfl⟩
        · cases h
      · cases h
    · cases h
  · cases h

/-- A function of values without addresses. -/
theorem PC.of_ev (hm : P.follows .mixedOrders = true) {f : FuncId} {fn : Func} (hf : P.funcs[f]? = some fn) {fuel : Nat} {args : List Value} {ans : List Ans} {r : FRes} (ha : args.all flat = true)
    (h : evFn P fn fuel args [] ans = some r) (hok : r.ok = true) (hobs : ∀ p ∈ r.obs, p) (hv : flat r.v = true) : PC P f args r.v := by
  refine PC.of_ct ha hv ?_
  intro ρ w us hus hM
  exact (CT.of_ev hm hf h hok hobs ρ w us hus hM).mono fun e w' ⟨v', m, ρ', u, h1, h2, h3⟩ => ⟨v', m, ρ', u, h1, h2.1, h3⟩

/-- The same, the memory left out. -/
def evFn3 (P : Program) (fn : Func) (fuel : Nat) (args : List Value) (ans : List Ans) : Option (Bool × List Prop × Value) :=
  match evFn P fn fuel args [] ans with
  | some r => some (r.ok, r.obs, r.v)
  | none => none
def allP : List Prop → Prop
  | [] => True
  | p :: ps => p ∧ allP ps
theorem allP_iff : ∀ {ps : List Prop}, allP ps → ∀ p ∈ ps, p
  | [], _, p, h => by cases h
  | q :: ps, ⟨h1, h2⟩, p, h => by
    rcases List.mem_cons.1 h with rfl | h
    · exact h1
    · exact allP_iff h2 p h
theorem allP_map {α : Type} {f : α → Prop} : ∀ {l : List α}, (∀ a ∈ l, f a) → allP (l.map f)
  | [], _ => trivial
  | a :: l, h => ⟨h a (by simp), allP_map fun b hb => h b (by simp [hb])⟩

theorem Tri.of_ev (hm : P.follows .mixedOrders = true) {c : Code} (fuel : Nat) (live : List Nat) {S S' : St} {e : Exit} (ans : List Ans) {ok : Bool} {obs : List Prop}
    (h : evM P c fuel live S ans = some (ok, obs, e, S')) (hok : ok = true) (hobs : allP obs) : Tri P c S (to e S') := by
  unfold evM at h
  split at h
  · rename_i r hr
    cases h
    exact Tri.mask (evC_sound hm _ _ _ _ _ hr hok (allP_iff hobs)).1 live
  · cases h
/-! ### Blocks left behind -/
def noNew0 (n : Nat) : Value → Bool
  | .pointer (some a) => decide (a.block < n)
  | _ => true
def noNew1 (n : Nat) : Value → Bool
  | .pointer (some a) => decide (a.block < n)
  | .slice (some a) _ _ => decide (a.block < n)
  | .func _ x y => x.toList.all (noNew0 n) && y.toList.all (noNew0 n)
  | .iface k (.slice none _ (_ + 1)) => decide (k < n)
  | .iface _ (.iface (_ + 2) _) => false
  | _ => true
def noNew2 (n : Nat) : Value → Bool
  | .agg cs => cs.toList.all (noNew1 n)
  | v => noNew1 n v
def noNew (n : Nat) : Value → Bool
  | .tuple vs => isWild vs.toList || vs.toList.all (noNew2 n)
  | v => noNew2 n v
def cutR (n : Nat) (ρ : Ren) : Ren := ⟨fun k => if k < n then ρ k else none, ρ.h, ρ.d, preG n ρ.g⟩
theorem cutR_some {n k : Nat} {ρ : Ren} {x : Nat × Nat} : cutR n ρ k = some x ↔ k < n ∧ ρ k = some x := by
  show (if k < n then ρ k else none) = some x ↔ _
  by_cases h : k < n
  · rw [if_pos h]; exact ⟨fun e => ⟨h, e⟩, fun e => e.2⟩
  · rw [if_neg h]; exact ⟨fun e => (by cases e), fun e => absurd e.1 h⟩
theorem rPL_cut {n : Nat} {ρ : Ren} : ∀ {l us : List Value}, rPL ρ l = some us → l.all (noNew0 n) = true → rPL (cutR n ρ) l = some us
  | [], us, h, _ => h
  | v :: l, us, h, hv => by
    simp only [List.all_cons, Bool.and_eq_true] at hv
    unfold rPL at h
    split at h
    · rename_i u us' h1 h2
      cases h
      have h3 : rP (cutR n ρ) v = some u := by
        cases v with
        | pointer a => cases a with
          | none => exact h1
          | some a =>
            have ha : a.block < n := by simpa [noNew0] using hv.1
            unfold rP rA cutR at *
            simp only [if_pos ha] at *
            exact h1
        | slice a l c => cases a with
          | none => exact h1
          | some a => cases h1
        | iface t v => cases v with
          | chan r => cases r with | none => exact h1 | some r => cases h1
          | map r => cases r with | none => exact h1 | some r => cases h1
          | slice a l c => cases a with
            | none => cases c with | zero => exact h1 | succ c => cases h1
            | some a => exact h1
          | _ => exact h1
        | _ => exact h1
      simp only [rPL, h3, rPL_cut h2 hv.2]
    · cases h
theorem tokR_cut {n : Nat} {ρ : Ren} {v u : Value} (h : tokR ρ v u) (hv : noNew1 n v = true) : tokR (cutR n ρ) v u := by
  unfold tokR at *
  split at h
  · obtain ⟨a, c, e, hlc, hor⟩ := h
    refine ⟨a, c, e, hlc, hor.imp id ?_⟩
    rintro ⟨b, x, e1, e2, e3, e4⟩
    exact ⟨b, x, e1, preG_some.2 ⟨e2, by rw [e3]; exact of_decide_eq_true hv⟩, e3, e4⟩
  · exact h
  · exact h
  · exact h
  · exact h
  · cases hv
  · exact h
theorem VR1_cut {n : Nat} {ρ : Ren} {v u : Value} (h : VR1 ρ v u) (hv : noNew1 n v = true) : VR1 (cutR n ρ) v u := by
  have hA : ∀ a : Addr, a.block < n → rA (cutR n ρ) a = rA ρ a := fun a ha => by
    unfold rA
    rw [show cutR n ρ a.block = if a.block < n then ρ a.block else none from rfl, if_pos ha]
  rcases h.inv with ⟨a, a', rfl, h1, rfl⟩ | ⟨a, l, c, a', rfl, h1, rfl⟩ | ⟨f, x, y, x', y', rfl, h1, h2, rfl⟩ | ⟨ht, htr⟩ | ⟨hf, _, rfl⟩
  · simp only [noNew1, decide_eq_true_eq] at hv
    exact VR1_ptr.2 ⟨a', (hA a hv).trans h1, rfl⟩
  · simp only [noNew1, decide_eq_true_eq] at hv
    exact VR1_slice.2 ⟨a', (hA a hv).trans h1, rfl⟩
  · simp only [noNew1, Bool.and_eq_true] at hv
    exact VR1_func.2 ⟨x', y', rPL_cut h1 hv.1, rPL_cut h2 hv.2, rfl⟩
  · exact (VR1_tok ht).2 (tokR_cut htr hv)
  · exact (VR1_flat hf).2 rfl
theorem PW_cut {α β : Type} {R R' : α → β → Prop} {p : α → Bool} (hp : ∀ a b, R a b → p a = true → R' a b) {l : List α} {m : List β} (h : PW R l m) (hl : l.all p = true) : PW R' l m :=
  ⟨h.1, fun i a b ha hb => hp a b (h.2 i a b ha hb) (List.all_eq_true.1 hl a (List.mem_of_getElem? ha))⟩
theorem VR2_cut {n : Nat} {ρ : Ren} {v u : Value} (h : VR2 ρ v u) (hv : noNew2 n v = true) : VR2 (cutR n ρ) v u := by
  unfold VR2 at *
  split at h
  · obtain ⟨us, rfl, hp⟩ := h
    exact ⟨us, rfl, PW_cut (p := noNew1 n) (fun _ _ => VR1_cut) hp hv⟩
  · rename_i hn
    have : noNew2 n v = noNew1 n v := by
      unfold noNew2
      split
      · exact absurd rfl (hn _)
      · rfl
    rw [this] at hv
    exact VR1_cut h hv
theorem VR_cut {n : Nat} {ρ : Ren} {v u : Value} (h : VR ρ v u) (hv : noNew n v = true) : VR (cutR n ρ) v u := by
  unfold VR at *
  split at h
  · simp only [noNew, Bool.or_eq_true] at hv
    rcases h with hw | ⟨us, rfl, hp⟩
    · exact .inl hw
    · rcases hv with hw | hv
      · exact .inl hw
      · exact .inr ⟨us, rfl, PW_cut (p := noNew2 n) (fun _ _ => VR2_cut) hp hv⟩
  · rename_i hn
    have : noNew n v = noNew2 n v := by
      unfold noNew
      split
      · exact absurd rfl (hn _)
      · rfl
    rw [this] at hv
    exact VR2_cut h hv
theorem MRel.drop {ρ : Ren} {mem : Mem} {w : World} (h : MRel ρ mem w) {n : Nat} (hc : ∀ B ∈ mem.take n, B.cells.all (noNew1 n) = true) : MRel (cutR n ρ) (mem.take n) w := by
  refine ⟨fun k b s hk => ?_, fun k b s k' b' s' B hk hk' hB ho hne => ?_, fun b cs hh => ?_, ⟨fun b x hx => ?_, fun k B hB hl => ?_⟩⟩
  case refine_4 =>
    obtain ⟨hx, hlt⟩ := preG_some.1 hx
    have hL := h.lists.lst b x hx
    exact hL.move (Nat.le_refl _) rfl (fun k s hk => hL.nomap k s (cutR_some.1 hk).2) hL.noh fun B hB hl => ⟨B, [], by rw [List.getElem?_take, if_pos hlt]; exact hB, hl, (List.append_nil _).symm⟩
  case refine_5 =>
    rw [List.getElem?_take] at hB
    split at hB
    · have h0 := h.lists.lmap k B hB hl
      show (if k < n then ρ k else none) = none
      rw [h0, ite_self]
    · cases hB
  case refine_3 =>
    obtain ⟨h1, h2, h3⟩ := h.froz b cs hh
    refine ⟨h1, h2, fun k s B hk hB => ?_⟩
    obtain ⟨hkn, hk⟩ := cutR_some.1 hk
    rw [List.getElem?_take, if_pos hkn] at hB
    exact h3 k s B hk hB
  · obtain ⟨hkn, hk⟩ := cutR_some.1 hk
    obtain ⟨B, hB, hb, hcell⟩ := h.cell k b s hk
    have hB' : (mem.take n)[k]? = some B := by rw [List.getElem?_take, if_pos hkn]; exact hB
    refine ⟨B, hB', hb, fun i v hv => ?_⟩
    obtain ⟨⟨u, hu, hw⟩, hf⟩ := hcell i v hv
    exact ⟨⟨u, VR1_cut hu (List.all_eq_true.1 (hc B (List.mem_of_getElem? hB')) v (List.mem_of_getElem? hv)), hw⟩, hf⟩
  · obtain ⟨hkn, hk⟩ := cutR_some.1 hk
    obtain ⟨_, hk'⟩ := cutR_some.1 hk'
    rw [List.getElem?_take, if_pos hkn] at hB
    exact h.apart k b s k' b' s' B hk hk' hB ho hne
theorem Mv.drop {ρ ρ' : Ren} {mem mem' : Mem} {w w' : World} (hM : MRel ρ mem w) (h : Mv ρ mem w ρ' mem' w') {n : Nat} (hn : mem.length ≤ n) : Mv ρ mem w (cutR n ρ') (mem'.take n) w' := by
  refine ⟨⟨fun k x hk => ?_, h.sub.h, h.sub.d, fun b x hx => ?_⟩, fun k x hk hk0 => h.new k x (cutR_some.1 hk).2 hk0, fun k B hB => ?_, h.os, h.tape, h.output, h.size, h.block, h.newh, fun b x hx h0 => h.newg b x (preG_some.1 hx).1 h0⟩
  case refine_2 =>
    obtain ⟨y, hy, hl⟩ := h.sub.g b x hx
    obtain ⟨B, _, hB, _⟩ := (hM.lists.lst b x hx).list
    have := (List.getElem?_eq_some_iff.1 hB).1
    exact ⟨y, preG_some.2 ⟨hy, by rw [hl.k]; omega⟩, hl⟩
  · obtain ⟨b, s⟩ := x
    obtain ⟨B, hB, _⟩ := hM.cell k b s hk
    have := (List.getElem?_eq_some_iff.1 hB).1
    exact cutR_some.2 ⟨by omega, h.sub.m k _ hk⟩
  · have := (List.getElem?_eq_some_iff.1 hB).1
    obtain ⟨B', hB', ho⟩ := h.kept k B hB
    exact ⟨B', by rw [List.getElem?_take, if_pos (by omega)]; exact hB', ho⟩
/-- The slots that are named, the first n blocks. -/
def maskD (live : List Nat) (n : Nat) (S : St) : St := ⟨maskT live 0 S.tmps, S.mem.take n⟩
def keepL (n : Nat) (S : St) : List Bool := S.tmps.map (noNew n) ++ S.mem.map fun B => B.cells.all (noNew1 n)
theorem allB_map {α : Type} {f : α → Bool} : ∀ {l : List α}, allB (l.map f) = true → ∀ a ∈ l, f a = true
  | [], _, a, h => by cases h
  | x :: l, h, a, ha => by
    rw [List.map_cons, allB_cons, Bool.and_eq_true] at h
    rcases List.mem_cons.1 ha with rfl | ha
    · exact h.1
    · exact allB_map h.2 a ha
theorem Tri.drop {c : Code} {S S1 : St} {e : Exit} (h : Tri P c S (to e S1)) (live : List Nat) {n : Nat} (hn : S.mem.length ≤ n) (hk : allB (keepL n (maskD live n S1)) = true) : Tri P c S (to e (maskD live n S1)) := by
  intro ρ a w hr
  refine wp_mono (h ρ a w hr) ?_
  rintro e' a' w' ⟨S', ρ', ⟨h1, h2⟩, r, m⟩
  subst h2
  rw [keepL, allB_append, Bool.and_eq_true] at hk
  refine ⟨_, cutR n ρ', ⟨h1, rfl⟩, ⟨?_, r.defers, r.mem.drop fun B hB => allB_map hk.2 B hB⟩, Mv.drop hr.mem m hn⟩
  exact PW_cut (p := noNew n) (fun _ _ => VR_cut) (maskT_rel r.tmps) (List.all_eq_true.2 fun v hv => allB_map hk.1 v hv)
/-- The same with the blocks from the n-th on left behind. -/
def evK (P : Program) (c : Code) (fuel : Nat) (live : List Nat) (n : Nat) (S : St) (ans : List Ans) : Option (Bool × List Prop × Exit × St) :=
  match evC P fuel c S ans with
  | some r => some (allB (r.ok ++ (decide (S.mem.length ≤ n) :: keepL n (maskD live n r.S))), r.obs, r.e, maskD live n r.S)
  | none => none
theorem Tri.of_evK (hm : P.follows .mixedOrders = true) {c : Code} (fuel : Nat) (live : List Nat) (n : Nat) {S S' : St} {e : Exit} (ans : List Ans) {ok : Bool} {obs : List Prop}
    (h : evK P c fuel live n S ans = some (ok, obs, e, S')) (hok : ok = true) (hobs : allP obs) : Tri P c S (to e S') := by
  unfold evK at h
  split at h
  · rename_i r hr
    cases h
    rw [allB_append, allB_cons, Bool.and_eq_true, Bool.and_eq_true, decide_eq_true_eq] at hok
    exact Tri.drop (evC_sound hm _ _ _ _ _ hr hok.1 (allP_iff hobs)).1 live hok.2.1 hok.2.2
  · cases h

/-- The values of n slots, by their numbers. -/
def slot (bs : List (Nat × Value)) (k : Nat) : Value := match bs with
  | [] => wild
  | (j, v) :: bs => match j.beq k with | true => v | false => slot bs k
def slots (n : Nat) (bs : List (Nat × Value)) : List Value := (List.range n).map (slot bs)

/-- A function of values without addresses: what its text gives, by the kernel; the tests and the calls that are owed. -/
theorem PC.of_ev3 (hm : P.follows .mixedOrders = true) {f : FuncId} {fn : Func} (hf : P.funcs[f]? = some fn) (fuel : Nat) {args : List Value} (ans : List Ans) {ok : Bool} {obs : List Prop} {v v' : Value}
    (h : evFn3 P fn fuel args ans = some (ok, obs, v)) (ha : args.all flat = true) (hok : ok = true) (hobs : allP obs) (hv : flat v = true) (he : v = v') : PC P f args v' := by
  subst he
  unfold evFn3 at h
  split at h
  · rename_i r hr
    cases h
    exact PC.of_ev hm hf ha hr hok (allP_iff hobs) hv
  · cases h

theorem enters {f : FuncId} {fn : Func} {c : Code} (hf : P.funcs[f]? = some fn) (hb : fn.body = some c) (hn : (fn.name == "runtime.NumGoroutine") = false) (us : Array Value) (w : World) : (callFunc f us).run P w = .ok (.enter f us) w := by
  have h1 : fn.name ≠ "runtime.NumGoroutine" := by simpa using hn
  simp [callFunc, hf, h1, hb]

theorem QC.of_pc {f : FuncId} {args : List Value} {v : Value} (he : ∀ us w, (callFunc f us).run P w = .ok (.enter f us) w) (h : PC P f args v) : QC P f args v := .inr ⟨fun w => he _ w, h⟩

end
end Go.Ev
/-! Relative states, part I: calls that change the caller's memory; what they made themselves is left behind. -/
namespace Go.Ev
section
variable {P : Program}

def evFnM (P : Program) (fn : Func) (fuel : Nat) (args : List Value) (mem : Mem) (ans : List Ans) : Option (Bool × List Prop × Value × Mem) :=
  match evFn P fn fuel args mem ans with
  | some r => some (allB (r.ok :: noNew mem.length r.v :: (r.mem.take mem.length).map fun B => B.cells.all (noNew1 mem.length)), r.obs, r.v, r.mem.take mem.length)
  | none => none
theorem MC.of_ev (hm : P.follows .mixedOrders = true) {f : FuncId} {fn : Func} (hf : P.funcs[f]? = some fn) (fuel : Nat) {args : List Value} {mem mem' : Mem} (ans : List Ans) {ok : Bool} {obs : List Prop} {v : Value}
    (h : evFnM P fn fuel args mem ans = some (ok, obs, v, mem')) (hok : ok = true) (hobs : allP obs) (he : ∀ us w, (callFunc f us).run P w = .ok (.enter f us) w) : MC P f args mem v mem' := by
  unfold evFnM at h
  split at h
  · rename_i r hr
    cases h
    rw [allB_cons, allB_cons, Bool.and_eq_true, Bool.and_eq_true] at hok
    refine ⟨he, fun ρ w us hus hM => ?_⟩
    refine (CT.of_ev hm hf hr hok.1 (allP_iff hobs) ρ w us hus hM).mono ?_
    rintro e w' ⟨v', m, ρ', u, h1, ⟨rfl, rfl⟩, hu, hM', hmv⟩
    exact ⟨r.v, _, cutR mem.length ρ', u, h1, ⟨rfl, rfl⟩, VR_cut hu hok.2.1, hM'.drop fun B hB => allB_map hok.2.2 B hB, Mv.drop hM hmv (Nat.le_refl _)⟩
  · cases h
end
end Go.Ev
