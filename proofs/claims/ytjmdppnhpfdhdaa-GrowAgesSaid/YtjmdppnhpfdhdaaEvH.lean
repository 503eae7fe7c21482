/-
  Relative states, part H: code as a whole, functions.
-/
import Derived.Test.YtjmdppnhpfdhdaaEvGb
namespace Go.Ev

/-! ### Orders, by program -/
def maskOf (acc : List Nat) : List Edge → Nat
  | [] => 0
  | e :: es => if Region.binds .any e then (2 ^ e.on ||| acc.getD e.on 0) ||| maskOf acc es else maskOf acc es
def befs : List Oper → List Nat → List Nat
  | [], acc => acc
  | o :: os, acc => befs os (acc ++ [maskOf acc o.after.toList])
def edgesB (b : List Nat) : Nat → List Oper → Bool
  | _, [] => true
  | i, o :: os => (o.after.toList.all fun e => !Region.binds .any e || decide (e.on < i)) && (b.getD i 0 == maskOf b o.after.toList) && edgesB b (i + 1) os
def pairB (ops : Array Oper) (oi oj : Oper) (ki kj m i : Nat) : Bool :=
  m.testBit i || (oi.apart ops oj && !((ki == 2 && decide (1 ≤ kj)) || (decide (1 ≤ ki) && kj == 2)))
def pairsB (ops : Array Oper) (oj : Oper) (kj m : Nat) : Nat → List Oper → List Nat → Bool
  | _, [], _ => true
  | i, oi :: os, ks => pairB ops oi oj (ks.headD 0) kj m i && pairsB ops oj kj m (i + 1) os ks.tail
def allPairsB (ops : Array Oper) (b ks : List Nat) (all : List Oper) : Nat → List Oper → Bool
  | _, [] => true
  | j, oj :: os => pairsB ops oj (ks.getD j 0) (b.getD j 0) 0 (all.take j) ks && allPairsB ops b ks all (j + 1) os
def fitsB (ops : Array Oper) (ks : List Nat) : Bool :=
  let b := befs ops.toList []
  edgesB b 0 ops.toList && allPairsB ops b ks ops.toList 0 ops.toList

theorem edgesB_spec {b : List Nat} : ∀ (os : List Oper) (i0 : Nat), edgesB b i0 os = true → ∀ (i : Nat) o, os[i]? = some o →
    (∀ e ∈ o.after, Region.binds .any e = true → e.on < i0 + i) ∧ b.getD (i0 + i) 0 = maskOf b o.after.toList
  | [], _, _, i, o, h => by simp at h
  | o :: os, i0, h, 0, o', h' => by
    simp at h'
    subst h'
    simp only [edgesB, Bool.and_eq_true, beq_iff_eq] at h
    refine ⟨fun e he hb => ?_, h.1.2⟩
    have := List.all_eq_true.1 h.1.1 e (by simpa using he)
    simp [hb] at this
    simpa using this
  | o :: os, i0, h, i + 1, o', h' => by
    simp only [edgesB, Bool.and_eq_true] at h
    have := edgesB_spec os (i0 + 1) h.2 i o' (by simpa using h')
    rwa [show i0 + 1 + i = i0 + (i + 1) by omega] at this

theorem maskOf_spec {b : List Nat} {i : Nat} : ∀ (es : List Edge), (maskOf b es).testBit i = true → ∃ e ∈ es, Region.binds .any e = true ∧ (e.on = i ∨ (b.getD e.on 0).testBit i = true)
  | [], h => by simp [maskOf] at h
  | e :: es, h => by
    unfold maskOf at h
    split at h
    · rename_i hb
      rw [Nat.testBit_or, Nat.testBit_or, Nat.testBit_two_pow] at h
      simp only [Bool.or_eq_true, decide_eq_true_eq] at h
      rcases h with (h | h) | h
      · exact ⟨e, by simp, hb, .inl h⟩
      · exact ⟨e, by simp, hb, .inr h⟩
      · obtain ⟨e', he', r⟩ := maskOf_spec es h; exact ⟨e', by simp [he'], r⟩
    · obtain ⟨e', he', r⟩ := maskOf_spec es h; exact ⟨e', by simp [he'], r⟩

theorem pairsB_spec {ops : Array Oper} {oj : Oper} {kj m : Nat} : ∀ (os : List Oper) (i0 : Nat) (ks : List Nat), pairsB ops oj kj m i0 os ks = true → ∀ (i : Nat) oi, os[i]? = some oi → pairB ops oi oj (ks.getD i 0) kj m (i0 + i) = true
  | [], _, _, _, i, o, h => by simp at h
  | o :: os, i0, ks, h, 0, o', h' => by
    simp at h'; subst h'
    simp only [pairsB, Bool.and_eq_true] at h
    have : ks.headD 0 = ks.getD 0 0 := by cases ks <;> rfl
    rw [← this]; exact h.1
  | o :: os, i0, ks, h, i + 1, o', h' => by
    simp only [pairsB, Bool.and_eq_true] at h
    have := pairsB_spec os (i0 + 1) ks.tail h.2 i o' (by simpa using h')
    have e : ks.tail.getD i 0 = ks.getD (i + 1) 0 := by cases ks <;> simp
    rwa [e, show i0 + 1 + i = i0 + (i + 1) by omega] at this

theorem allPairsB_spec {ops : Array Oper} {b ks : List Nat} {all : List Oper} : ∀ (os : List Oper) (j0 : Nat), allPairsB ops b ks all j0 os = true → ∀ (j : Nat) oj, os[j]? = some oj →
    ∀ (i : Nat) oi, i < j0 + j → all[i]? = some oi → pairB ops oi oj (ks.getD i 0) (ks.getD (j0 + j) 0) (b.getD (j0 + j) 0) i = true
  | [], _, _, j, o, h => by simp at h
  | o :: os, j0, h, 0, oj, h' => by
    intro i oi hi ho
    simp at h'; subst h'
    simp only [allPairsB, Bool.and_eq_true] at h
    have := pairsB_spec _ 0 ks h.1 i oi (by rw [List.getElem?_take, if_pos (by omega)]; exact ho)
    simpa using this
  | o :: os, j0, h, j + 1, oj, h' => by
    intro i oi hi ho
    simp only [allPairsB, Bool.and_eq_true] at h
    have := allPairsB_spec os (j0 + 1) h.2 j oj (by simpa using h') i oi (by omega) ho
    rwa [show j0 + 1 + j = j0 + (j + 1) by omega] at this

theorem fitsB_spec {ops : Array Oper} {ks : List Nat} (h : fitsB ops ks = true) : ∃ bef, Fits ops (fun i => ks.getD i 0) bef := by
  simp only [fitsB, Bool.and_eq_true] at h
  obtain ⟨h1, h2⟩ := h
  have hE := edgesB_spec _ _ h1
  have hP := allPairsB_spec _ _ h2
  refine ⟨fun i j => ((befs ops.toList []).getD j 0).testBit i && decide (j < ops.size), fun i o ho e he hb => ?_, fun i j hb => ?_, fun i j oi oj hij hoi hoj => ?_, fun i j hij hj hc => ?_⟩
  · have := (hE i o (by simpa using ho)).1 e he hb
    omega
  · simp only [Bool.and_eq_true, decide_eq_true_eq] at hb
    have ho : ops[j]? = some ops[j] := Array.getElem?_eq_getElem hb.2
    have hmk := (hE j ops[j] (by rw [Array.getElem?_toList]; exact ho)).2
    rw [Nat.zero_add] at hmk
    rw [hmk] at hb
    obtain ⟨e, he, hbind, hor⟩ := maskOf_spec _ hb.1
    have hlt := (hE j ops[j] (by rw [Array.getElem?_toList]; exact ho)).1 e (by simpa using he) hbind
    refine ⟨_, ho, e, by simpa using he, hbind, hor.imp id fun h => ?_⟩
    simp only [Bool.and_eq_true, decide_eq_true_eq]
    exact ⟨h, by omega⟩
  · have hjl := (Array.getElem?_eq_some_iff.1 hoj).1
    have := hP j oj (by simpa using hoj) i oi (by omega) (by simpa using hoi)
    simp only [pairB, Bool.or_eq_true, Bool.and_eq_true, Nat.zero_add] at this
    rcases this with h | ⟨h, _⟩
    · left; simp only [Bool.and_eq_true, decide_eq_true_eq]; exact ⟨h, hjl⟩
    · obtain ⟨s1, s2, s3⟩ := Oper.apart_spec h
      right
      exact ⟨fun d hd => ⟨s1 d hd, s2 d hd⟩, s3⟩
  · have hil : i < ops.size := by omega
    have := hP j ops[j] (by rw [Array.getElem?_toList]; exact Array.getElem?_eq_getElem hj) i ops[i] (by omega) (by rw [Array.getElem?_toList]; exact Array.getElem?_eq_getElem hil)
    simp only [pairB, Bool.or_eq_true, Bool.and_eq_true, Nat.zero_add] at this
    rcases this with h | ⟨_, h⟩
    · simp only [Bool.and_eq_true, decide_eq_true_eq]; exact ⟨h, hj⟩
    · exfalso
      simp only [Bool.not_eq_true', Bool.or_eq_false_iff, Bool.and_eq_false_iff, beq_eq_false_iff_ne, decide_eq_false_iff_not] at h
      omega

def pairG (ops : Array Oper) (oi oj : Oper) (ki kj m i : Nat) : Bool :=
  m.testBit i || (oi.apart ops oj && !clash ki kj)
def pairsG (ops : Array Oper) (oj : Oper) (kj m : Nat) : Nat → List Oper → List Nat → Bool
  | _, [], _ => true
  | i, oi :: os, ks => pairG ops oi oj (ks.headD 0) kj m i && pairsG ops oj kj m (i + 1) os ks.tail
def allPairsG (ops : Array Oper) (b ks : List Nat) (all : List Oper) : Nat → List Oper → Bool
  | _, [] => true
  | j, oj :: os => pairsG ops oj (ks.getD j 0) (b.getD j 0) 0 (all.take j) ks && allPairsG ops b ks all (j + 1) os
/-- The order is fit, and nobody writes where he does not tell. -/
def fitsG (ops : Array Oper) (ks : List Nat) : Bool :=
  (ks.all fun k => !(k == 2) && !(k == 2000000004)) && (edgesB (befs ops.toList []) 0 ops.toList && allPairsG ops (befs ops.toList []) ks ops.toList 0 ops.toList)
theorem pairsG_spec {ops : Array Oper} {oj : Oper} {kj m : Nat} : ∀ (os : List Oper) (i0 : Nat) (ks : List Nat), pairsG ops oj kj m i0 os ks = true → ∀ (i : Nat) oi, os[i]? = some oi → pairG ops oi oj (ks.getD i 0) kj m (i0 + i) = true
  | [], _, _, _, i, o, h => by simp at h
  | o :: os, i0, ks, h, 0, o', h' => by
    simp at h'; subst h'
    simp only [pairsG, Bool.and_eq_true] at h
    have : ks.headD 0 = ks.getD 0 0 := by cases ks <;> rfl
    rw [← this]; exact h.1
  | o :: os, i0, ks, h, i + 1, o', h' => by
    simp only [pairsG, Bool.and_eq_true] at h
    have := pairsG_spec os (i0 + 1) ks.tail h.2 i o' (by simpa using h')
    have e : ks.tail.getD i 0 = ks.getD (i + 1) 0 := by cases ks <;> simp
    rwa [e, show i0 + 1 + i = i0 + (i + 1) by omega] at this
theorem allPairsG_spec {ops : Array Oper} {b ks : List Nat} {all : List Oper} : ∀ (os : List Oper) (j0 : Nat), allPairsG ops b ks all j0 os = true → ∀ (j : Nat) oj, os[j]? = some oj →
    ∀ (i : Nat) oi, i < j0 + j → all[i]? = some oi → pairG ops oi oj (ks.getD i 0) (ks.getD (j0 + j) 0) (b.getD (j0 + j) 0) i = true
  | [], _, _, j, o, h => by simp at h
  | o :: os, j0, h, 0, oj, h' => by
    intro i oi hi ho
    simp at h'; subst h'
    simp only [allPairsG, Bool.and_eq_true] at h
    have := pairsG_spec _ 0 ks h.1 i oi (by rw [List.getElem?_take, if_pos (by omega)]; exact ho)
    simpa using this
  | o :: os, j0, h, j + 1, oj, h' => by
    intro i oi hi ho
    simp only [allPairsG, Bool.and_eq_true] at h
    have := allPairsG_spec os (j0 + 1) h.2 j oj (by simpa using h') i oi (by omega) ho
    rwa [show j0 + 1 + j = j0 + (j + 1) by omega] at this
theorem fitsG_spec {ops : Array Oper} {ks : List Nat} (h : fitsG ops ks = true) : (∃ bef, FitsG ops (fun i => ks.getD i 0) bef) ∧ ∀ k ∈ ks, k ≠ 2 ∧ k ≠ 2000000004 := by
  simp only [fitsG, Bool.and_eq_true] at h
  obtain ⟨h0, h1, h2⟩ := h
  have hE := edgesB_spec _ _ h1
  have hP := allPairsG_spec _ _ h2
  refine ⟨⟨fun i j => ((befs ops.toList []).getD j 0).testBit i && decide (j < ops.size), fun i o ho e he hb => ?_, fun i j hb => ?_, fun i j oi oj hij hoi hoj => ?_, fun i j hij hj hc => ?_⟩, fun k hk => by have := List.all_eq_true.1 h0 k hk; simpa using this⟩
  · have := (hE i o (by simpa using ho)).1 e he hb
    omega
  · simp only [Bool.and_eq_true, decide_eq_true_eq] at hb
    have ho : ops[j]? = some ops[j] := Array.getElem?_eq_getElem hb.2
    have hmk := (hE j ops[j] (by rw [Array.getElem?_toList]; exact ho)).2
    rw [Nat.zero_add] at hmk
    rw [hmk] at hb
    obtain ⟨e, he, hbind, hor⟩ := maskOf_spec _ hb.1
    have hlt := (hE j ops[j] (by rw [Array.getElem?_toList]; exact ho)).1 e (by simpa using he) hbind
    refine ⟨_, ho, e, by simpa using he, hbind, hor.imp id fun h => ?_⟩
    simp only [Bool.and_eq_true, decide_eq_true_eq]
    exact ⟨h, by omega⟩
  · have hjl := (Array.getElem?_eq_some_iff.1 hoj).1
    have := hP j oj (by simpa using hoj) i oi (by omega) (by simpa using hoi)
    simp only [pairG, Bool.or_eq_true, Bool.and_eq_true, Nat.zero_add] at this
    rcases this with h | ⟨h, _⟩
    · left; simp only [Bool.and_eq_true, decide_eq_true_eq]; exact ⟨h, hjl⟩
    · obtain ⟨s1, s2, s3⟩ := Oper.apart_spec h
      right
      exact ⟨fun d hd => ⟨s1 d hd, s2 d hd⟩, s3⟩
  · have hil : i < ops.size := by omega
    have := hP j ops[j] (by rw [Array.getElem?_toList]; exact Array.getElem?_eq_getElem hj) i ops[i] (by omega) (by rw [Array.getElem?_toList]; exact Array.getElem?_eq_getElem hil)
    simp only [pairG, Bool.or_eq_true, Bool.and_eq_true, Nat.zero_add] at this
    rcases this with h | ⟨_, h⟩
    · simp only [Bool.and_eq_true, decide_eq_true_eq]; exact ⟨h, hj⟩
    · rw [hc] at h; cases h

/-! ### A region's operations -/
def forceL {α β : Type} : List α → (List α → β) → β
  | [], k => k []
  | x :: xs, k => forceL xs fun ys => k (x :: ys)
theorem forceL_eq {α β : Type} : ∀ (l : List α) (k : List α → β), forceL l k = k l
  | [], _ => rfl
  | x :: xs, k => by rw [forceL, forceL_eq xs]

/-- Which operations' results are tests of others. -/
def guardsOf : List Oper → List Nat
  | [] => []
  | o :: os => match o.guard with | some (j, _) => j :: guardsOf os | none => guardsOf os

/-- Is b what it is taken for? -/
def eqB (b t : Bool) : Bool := match t with | true => b | false => !b
theorem eqB_eq {b t : Bool} (h : eqB b t = true) : b = t := by cases t <;> cases b <;> first | rfl | cases h
def allB : List Bool → Bool
  | [] => true
  | b :: bs => match b with | true => allB bs | false => false
theorem allB_cons (b : Bool) (bs : List Bool) : allB (b :: bs) = (b && allB bs) := by cases b <;> rfl
theorem allB_append : ∀ (l m : List Bool), allB (l ++ m) = (allB l && allB m)
  | [], _ => rfl
  | b :: l, m => by rw [List.cons_append, allB_cons, allB_cons, allB_append l m, Bool.and_assoc]
/-- The same under another name, for what a text is expected to ask (the kernel then compares test by test). -/
def conj : List Bool → Bool
  | [] => true
  | b :: bs => match b with | true => conj bs | false => false
theorem conj_cons (b : Bool) (bs : List Bool) : conj (b :: bs) = (b && conj bs) := by cases b <;> rfl
theorem conj_nil : conj [] = true := rfl
/-- A test's answer: what it is, or what it is taken for. -/
def settle (isG : Bool) (v : Value) (ans : List Ans) : Option (Bool × List Prop × Value × List Ans) :=
  match ans with
  | .at 0 v' :: ans =>
    match v, v' with
    | .int k x, .int k' z => if k = k' then some (decide (x = z), [], .int k z, ans) else none
    | v, v' => some (true, [v = v'], v', ans)
  | .at (n + 1) v' :: ans => some (true, [], v, .at n v' :: ans)
  | .is 0 v' :: ans => some (true, [v = v'], v', ans)
  | .is (n + 1) v' :: ans => some (true, [], v, .is n v' :: ans)
  | ans =>
    if isG then
      match v, ans with
      | .bool b, .tst t :: ans => some (eqB b t, [], .bool t, ans)
      | _, .tst _ :: _ => none
      | v, .auto :: ans => some (true, [], v, ans)
      | v, ans => some (true, [], v, ans)
    else some (true, [], v, ans)

def effMem (m : Mem) : Eff → Mem × Nat
  | .pure => (m, 0)
  | .read => (m, 1)
  | .new B => (m ++ [B], 1)
  | .write m' => (m', 2)
  | .adds l => (m ++ l, 2000000004)

/-- What an operation does to memory: 0 nothing, 1 it reads or makes, 2 it writes; 2 k + 3: it reads block k only, 2 k + 4: it writes block k only. -/
def codeOf (E : Operand → Option Value) (o : Oper) (c : Nat) : Nat :=
  match o.op with
  | .load _ x => match E x with
    | some (.pointer (some ⟨k, _, none⟩)) => 2 * k + 3
    | _ => c
  | .store _ x _ => match E x with
    | some (.pointer (some ⟨k, _, none⟩)) => 2 * k + 4
    | _ => c
  | _ => c
/-- Does it leave block k as it is? -/
def leaves (k c : Nat) : Bool := !(c == 2) && !(c == 2 * k + 4)
/-- The classes: who reads only what nobody writes asks nothing of the order. -/
def classOf (n : Nat) (all : List Nat) (c : Nat) : Nat :=
  match decide (c < 3) with
  | true => c
  | false => match c % 2 == 1 with
    | true => match decide ((c - 3) / 2 < n) && all.all (leaves ((c - 3) / 2)) with
      | true => 0
      | false => 1
    | false => 2
def classes (n : Nat) (cs : List Nat) : List Nat := cs.map (classOf n cs)

def evOps (P : Program) (ops : Array Oper) (gs : List Nat) : Nat → List Oper → St → List Ans → Option (List Bool × List Prop × St × List Ans × List Nat)
  | _, [], S, ans => some ([], [], S, ans, [])
  | i, o :: os, S, ans =>
    match guardOk ops S.tmps o with
    | false => none
    | true =>
    match wantedL ops S.tmps o with
    | true =>
      match evOp P S.mem S.eval o ans with
      | some (r, ans1) =>
        match settle (gs.contains i) r.v ans1 with
        | some (c, p1, v, ans2) =>
          forceL (putL S.tmps o.dst v) fun ts =>
          forceL (effMem S.mem r.eff).1 fun m =>
          match evOps P ops gs (i + 1) os ⟨ts, m⟩ ans2 with
          | some (c2, p2, S2, ans3, ks) => some (r.ok :: c :: c2, r.obs ++ (p1 ++ p2), S2, ans3, codeOf S.eval o (effMem S.mem r.eff).2 :: ks)
          | none => none
        | none => none
      | none => none
    | false =>
      match evOps P ops gs (i + 1) os ⟨putL S.tmps o.dst undef, S.mem⟩ ans with
      | some (c2, p2, S2, ans3, ks) => some (c2, p2, S2, ans3, 0 :: ks)
      | none => none

theorem settle_spec {g c : Bool} {p : List Prop} {v v' : Value} {ans ans' : List Ans} (h : settle g v ans = some (c, p, v', ans')) (hc : c = true) (hp : ∀ q ∈ p, q) : v' = v := by
  subst hc
  unfold settle at h
  split at h
  · split at h
    · split at h
      · simp only [Option.some.injEq, Prod.mk.injEq, decide_eq_true_eq] at h
        obtain ⟨h1, _, rfl, _⟩ := h
        rw [h1]
      · cases h
    · simp only [Option.some.injEq, Prod.mk.injEq, true_and] at h
      obtain ⟨rfl, rfl, _⟩ := h
      exact (hp _ (List.mem_singleton.2 rfl)).symm
  · simp only [Option.some.injEq, Prod.mk.injEq] at h; exact h.2.2.1.symm
  · simp only [Option.some.injEq, Prod.mk.injEq, true_and] at h
    obtain ⟨rfl, rfl, _⟩ := h
    exact (hp _ (List.mem_singleton.2 rfl)).symm
  · simp only [Option.some.injEq, Prod.mk.injEq] at h; exact h.2.2.1.symm
  · split at h
    · split at h
      · simp only [Option.some.injEq, Prod.mk.injEq] at h
        obtain ⟨h1, _, rfl, _⟩ := h; rw [eqB_eq h1]
      · cases h
      · simp only [Option.some.injEq, Prod.mk.injEq] at h; exact h.2.2.1.symm
      · simp only [Option.some.injEq, Prod.mk.injEq] at h; exact h.2.2.1.symm
    · simp only [Option.some.injEq, Prod.mk.injEq] at h; exact h.2.2.1.symm

section
variable {P : Program}

/-- What an operation says of memory, by its code. -/
def MemR (P : Program) (mem : Mem) (E : Operand → Option Value) (o : Oper) (v : Value) (mem' : Mem) (code : Nat) : Prop :=
  (code = 0 ∧ mem' = mem ∧ NonW P o E v [] none) ∨ (code = 1 ∧ mem' = mem ∧ NonW P o E v mem none) ∨ (code = 1 ∧ ∃ B, mem' = mem ++ [B] ∧ NonW P o E v mem' (some mem.length)) ∨ (code = 2 ∧ Wr P o E v mem mem') ∨
  (∃ k, code = 2 * k + 3 ∧ mem' = mem ∧ ∀ M : Mem, M[k]? = mem[k]? → NonW P o E v M none) ∨ (∃ k, code = 2 * k + 4 ∧ Wr P o E v mem mem' ∧ ∀ k', k' < mem.length → k' ≠ k → mem'[k']? = mem[k']?)
theorem loadOp_only {mem M : Mem} {t : TypeId} {k off : Nat} (h : M[k]? = mem[k]?) : loadOp P M t (.pointer (some ⟨k, off, none⟩)) = loadOp P mem t (.pointer (some ⟨k, off, none⟩)) := by
  unfold loadOp
  simp only [h]
theorem storeOp_only {mem m : Mem} {t : TypeId} {k off : Nat} {y : Value} {c : Bool} (h : storeOp P mem t (.pointer (some ⟨k, off, none⟩)) y = some (c, m)) : ∀ k', k' ≠ k → m[k']? = mem[k']? := by
  intro k' hk
  unfold storeOp at h
  simp only at h
  split at h
  · split at h
    · cases h; rw [List.getElem?_set_ne (fun e => hk e.symm)]
    · cases h
  · cases h
theorem evOp_memR {mem : Mem} {E : Operand → Option Value} {o : Oper} {ans ans' : List Ans} {r : Out} (h : evOp P mem E o ans = some (r, ans')) (hok : r.ok = true) (hobs : ∀ p ∈ r.obs, p) :
    MemR P mem E o r.v (effMem mem r.eff).1 (codeOf E o (effMem mem r.eff).2) := by
  have hout := evOp_sound h hok hobs
  have gen : MemR P mem E o r.v (effMem mem r.eff).1 (effMem mem r.eff).2 := by
    unfold OutR at hout
    cases hr : r.eff with
    | pure => rw [hr] at hout; exact .inl ⟨rfl, rfl, hout⟩
    | read => rw [hr] at hout; exact .inr (.inl ⟨rfl, rfl, hout⟩)
    | new B => rw [hr] at hout; exact .inr (.inr (.inl ⟨rfl, B, rfl, hout⟩))
    | write m => rw [hr] at hout; exact .inr (.inr (.inr (.inl ⟨rfl, hout⟩)))
    | adds l => rw [hr] at hout; exact .inr (.inr (.inr (.inr (.inr ⟨1000000000, rfl, hout, fun k' hk' _ => List.getElem?_append_left hk'⟩))))
  unfold codeOf
  split
  · rename_i t x ho
    split
    · rename_i k off hx
      have hM : ∀ M : Mem, M[k]? = mem[k]? → evOp P M E o ans = some (r, ans') := fun M hM => by
        unfold evOp at h ⊢
        simp only [ho, hx] at h ⊢
        rw [loadOp_only hM]; exact h
      have hr : r.eff = .read := by
        unfold evOp at h
        simp only [ho, hx, pureOut] at h
        split at h
        · cases h; rfl
        · cases h
      refine .inr (.inr (.inr (.inr (.inl ⟨k, rfl, by rw [hr]; rfl, fun M hm => ?_⟩))))
      have := evOp_sound (hM M hm) hok hobs
      unfold OutR at this
      rw [hr] at this
      exact this
    · exact gen
  · rename_i t x y ho
    split
    · rename_i k off hx
      have hr : ∃ m, r.eff = .write m ∧ ∀ k', k' ≠ k → m[k']? = mem[k']? := by
        unfold evOp at h
        simp only [ho, hx] at h
        split at h
        · rename_i vx vy h1 h2
          cases h1
          split at h
          · rename_i c m hs
            cases h
            exact ⟨m, rfl, storeOp_only hs⟩
          · cases h
        · cases h
      obtain ⟨m, hr, hm⟩ := hr
      unfold OutR at hout
      rw [hr] at hout ⊢
      exact .inr (.inr (.inr (.inr (.inr ⟨k, rfl, hout, fun k' _ => hm k'⟩))))
    · exact gen
  · exact gen
theorem storeOp_set {mem m : Mem} {t : TypeId} {k off : Nat} {y : Value} {c : Bool} (h : storeOp P mem t (.pointer (some ⟨k, off, none⟩)) y = some (c, m)) :
    ∃ B, m = mem.set k B ∧ k < mem.length ∧ ∀ M : Mem, M[k]? = mem[k]? → storeOp P M t (.pointer (some ⟨k, off, none⟩)) y = some (c, M.set k B) := by
  unfold storeOp at h
  simp only at h
  split at h
  · rename_i B hB
    split at h
    · rename_i hc
      cases h
      refine ⟨_, rfl, (List.getElem?_eq_some_iff.1 hB).1, fun M hM => ?_⟩
      unfold storeOp
      simp only [hM, hB, hc, if_true]
    · cases h
  · cases h
theorem loadOp_in {mem : Mem} {t : TypeId} {k off : Nat} {r : Bool × Value} (h : loadOp P mem t (.pointer (some ⟨k, off, none⟩)) = some r) : k < mem.length := by
  unfold loadOp at h
  simp only at h
  rcases Nat.lt_or_ge k mem.length with hk | hk
  · exact hk
  · rw [List.getElem?_eq_none hk] at h
    simp at h
theorem evOp_memG {mem : Mem} {E : Operand → Option Value} {o : Oper} {ans ans' : List Ans} {r : Out} (h : evOp P mem E o ans = some (r, ans')) (hok : r.ok = true) (hobs : ∀ p ∈ r.obs, p) (hne : codeOf E o (effMem mem r.eff).2 ≠ 2 ∧ codeOf E o (effMem mem r.eff).2 ≠ 2000000004) :
    MemG P mem E o r.v (effMem mem r.eff).1 (codeOf E o (effMem mem r.eff).2) := by
  have hR := evOp_memR h hok hobs
  rcases hR with ⟨hc, hm, hn⟩ | ⟨hc, hm, hn⟩ | ⟨hc, B, hm, hn⟩ | ⟨hc, hn⟩ | ⟨k, hc, hm, hn⟩ | ⟨k, hc, hn, hm⟩
  · rw [hc]; exact .inl ⟨rfl, hm, hn⟩
  · rw [hc]; exact .inr (.inl ⟨rfl, hm, hn⟩)
  · rw [hc]; exact .inr (.inr (.inl ⟨rfl, B, hm, hn⟩))
  · exact absurd hc hne.1
  · rw [hc]
    refine .inr (.inr (.inr (.inl ⟨k, rfl, hm, ?_, hn⟩)))
    unfold codeOf at hc
    split at hc
    · rename_i t x ho
      split at hc
      · rename_i k' off hx
        have e : k' = k := by omega
        subst e
        unfold evOp at h
        simp only [ho, hx, pureOut] at h
        split at h
        · rename_i hl; exact loadOp_in hl
        · cases h
      · cases hr : r.eff <;> rw [hr] at hc <;> simp only [effMem] at hc <;> omega
    · split at hc
      · omega
      · cases hr : r.eff <;> rw [hr] at hc <;> simp only [effMem] at hc <;> omega
    · cases hr : r.eff <;> rw [hr] at hc <;> simp only [effMem] at hc <;> omega
  · have hnk : 2 * k + 4 ≠ 2000000004 := by rw [← hc]; exact hne.2
    rw [hc]
    unfold codeOf at hc
    split at hc
    · split at hc
      · omega
      · cases hr : r.eff <;> rw [hr] at hc <;> simp only [effMem] at hc <;> omega
    · rename_i t x y ho
      split at hc
      · rename_i k' off hx
        have e : k' = k := by omega
        subst e
        unfold evOp at h
        simp only [ho] at h
        split at h
        · rename_i vx vy h1 h2
          rw [hx] at h1
          cases h1
          split at h
          · rename_i c m hs
            cases h
            simp only at hok
            subst hok
            obtain ⟨B, hB, hkl, hall⟩ := storeOp_set hs
            refine .inr (.inr (.inr (.inr ⟨k', B, rfl, hB, hkl, fun M hM => ?_⟩)))
            intro ρ a w hH hMr next Q hnx
            obtain ⟨w', hr, hM', hmv⟩ := storeOp_sound (hall M hM) (hH x (by simp [ho, Op.operands]) _ hx) (hH y (by simp [ho, Op.operands]) _ h2) hMr
            unfold Oper.wp
            have : (execOp a.eval o).run P w = .ok .skip w' := by simp [execOp, ho, hr]
            rw [this]
            exact hnx undef w' VR_undef hM' hmv
          · cases h
        · cases h
      · cases hr : r.eff <;> rw [hr] at hc <;> simp only [effMem] at hc <;> omega
    · cases hr : r.eff <;> rw [hr] at hc <;> simp only [effMem] at hc <;> omega
def Step2 (P : Program) (ops : Array Oper) (o : Oper) (S S' : St) (code : Nat) : Prop :=
  guardOk ops S.tmps o = true ∧ ((wantedL ops S.tmps o = false ∧ S'.tmps = putL S.tmps o.dst undef ∧ S'.mem = S.mem ∧ code = 0) ∨
  (wantedL ops S.tmps o = true ∧ ∃ v, S'.tmps = putL S.tmps o.dst v ∧ MemR P S.mem S.eval o v S'.mem code))
theorem trace_of_steps {ops : Array Oper} {T : Nat → St} {cs : List Nat} (hl : cs.length = ops.size) (h : ∀ (j : Nat) o, ops[j]? = some o → Step2 P ops o (T j) (T (j + 1)) (cs.getD j 0)) :
    Trace P ops T (fun i => (classes (T 0).mem.length cs).getD i 0) := by
  have hcs : ∀ j, j < ops.size → cs.getD j 0 ∈ cs := fun j hj => by
    rw [List.getD_eq_getElem?_getD, List.getElem?_eq_getElem (by omega)]; exact List.getElem_mem _
  have hcl : ∀ j, j < ops.size → (classes (T 0).mem.length cs).getD j 0 = classOf (T 0).mem.length cs (cs.getD j 0) := fun j hj => by
    unfold classes
    rw [List.getD_eq_getElem?_getD, List.getElem?_map, List.getD_eq_getElem?_getD, List.getElem?_eq_getElem (by omega)]; rfl
  have stable : ∀ k, k < (T 0).mem.length → cs.all (leaves k) = true → ∀ j, j ≤ ops.size → (T j).mem[k]? = (T 0).mem[k]? := by
    intro k hk hall j
    induction j with
    | zero => intro _; rfl
    | succ j ih =>
      intro hj
      have hih := ih (by omega)
      have ho : ops[j]? = some ops[j] := Array.getElem?_eq_getElem (by omega)
      have hlv := List.all_eq_true.1 hall _ (hcs j (by omega))
      simp only [leaves, Bool.and_eq_true, Bool.not_eq_true', beq_eq_false_iff_ne, ne_eq] at hlv
      rcases (h j _ ho).2 with ⟨_, _, hm, _⟩ | ⟨_, v, _, ⟨_, hm, _⟩ | ⟨_, hm, _⟩ | ⟨_, B, hm, _⟩ | ⟨h2, _⟩ | ⟨k', _, hm, _⟩ | ⟨k', hc, _, hm⟩⟩
      · rw [hm]; exact hih
      · rw [hm]; exact hih
      · rw [hm]; exact hih
      · have hlt : k < (T j).mem.length := by
          have : (T 0).mem[k]? = some (T 0).mem[k] := List.getElem?_eq_getElem hk
          rw [this] at hih
          exact (List.getElem?_eq_some_iff.1 hih).1
        rw [hm, List.getElem?_append_left hlt]; exact hih
      · exact absurd h2 hlv.1
      · rw [hm]; exact hih
      · have hlt : k < (T j).mem.length := by
          have : (T 0).mem[k]? = some (T 0).mem[k] := List.getElem?_eq_getElem hk
          rw [this] at hih
          exact (List.getElem?_eq_some_iff.1 hih).1
        rw [hm k hlt (fun e => hlv.2 (by rw [hc, e]))]; exact hih
  intro i hi
  refine ⟨ops[i], Array.getElem?_eq_getElem hi, ?_⟩
  have ho : ops[i]? = some ops[i] := Array.getElem?_eq_getElem hi
  obtain ⟨hg, hs⟩ := h i _ ho
  simp only
  rw [hcl i hi]
  refine ⟨hg, ?_⟩
  rcases hs with ⟨hw, ht, hm, hc⟩ | ⟨hw, v, ht, hs⟩
  · exact .inl ⟨hw, ht, hm, by rw [hc]; rfl⟩
  · refine .inr ⟨hw, v, ht, ?_⟩
    rcases hs with ⟨hc, hm, hn⟩ | ⟨hc, hm, hn⟩ | ⟨hc, B, hm, hn⟩ | ⟨hc, hn⟩ | ⟨k, hc, hm, hn⟩ | ⟨k, hc, hn, _⟩
    · rw [hc]; exact .inl ⟨rfl, hm, fun M _ N hN => hn N (by simp)⟩
    · rw [hc]; exact .inr (.inl ⟨rfl, hm, hn⟩)
    · rw [hc]; exact .inr (.inr (.inl ⟨rfl, B, hm, hn⟩))
    · rw [hc]; exact .inr (.inr (.inr ⟨rfl, hn⟩))
    · have e1 : classOf (T 0).mem.length cs (cs.getD i 0) = match decide (k < (T 0).mem.length) && cs.all (leaves k) with | true => 0 | false => 1 := by
        rw [hc]
        unfold classOf
        rw [decide_eq_false (by omega), show ((2 * k + 3) % 2 == 1) = true by rw [beq_iff_eq]; omega, show (2 * k + 3 - 3) / 2 = k by omega]
      rw [e1]
      split
      · rename_i hf
        simp only [Bool.and_eq_true, decide_eq_true_eq] at hf
        refine .inl ⟨rfl, hm, ?_⟩
        rintro M ⟨j, hj, rfl⟩
        exact hn _ ((stable k hf.1 hf.2 j hj).trans (stable k hf.1 hf.2 i (by omega)).symm)
      · exact .inr (.inl ⟨rfl, hm, hn _ rfl⟩)
    · have e1 : classOf (T 0).mem.length cs (cs.getD i 0) = 2 := by
        rw [hc]
        unfold classOf
        rw [decide_eq_false (by omega), show ((2 * k + 4) % 2 == 1) = false by rw [beq_eq_false_iff_ne]; omega]
      rw [e1]
      exact .inr (.inr (.inr ⟨rfl, hn⟩))

theorem evOps_len {ops : Array Oper} {gs : List Nat} : ∀ (os : List Oper) (i : Nat) (S S' : St) (ans ans' : List Ans) (c : List Bool) (p : List Prop) (ks : List Nat),
    evOps P ops gs i os S ans = some (c, p, S', ans', ks) → ks.length = os.length
  | [], i, S, S', ans, ans', c, p, ks, h => by
    simp only [evOps, Option.some.injEq, Prod.mk.injEq] at h
    rw [← h.2.2.2.2]; rfl
  | o :: os, i, S, S', ans, ans', c, p, ks, h => by
    unfold evOps at h
    split at h
    · cases h
    split at h
    · split at h
      · split at h
        · rw [forceL_eq, forceL_eq] at h
          split at h
          · rename_i hrec
            simp only [Option.some.injEq, Prod.mk.injEq] at h
            rw [← h.2.2.2.2, List.length_cons, List.length_cons, evOps_len os _ _ _ _ _ _ _ _ hrec]
          · cases h
        · cases h
      · cases h
    · split at h
      · rename_i hrec
        simp only [Option.some.injEq, Prod.mk.injEq] at h
        rw [← h.2.2.2.2, List.length_cons, List.length_cons, evOps_len os _ _ _ _ _ _ _ _ hrec]
      · cases h

theorem evOps_trace {ops : Array Oper} {gs : List Nat} : ∀ (os : List Oper) (i : Nat) (S S' : St) (ans ans' : List Ans) (c : List Bool) (p : List Prop) (ks : List Nat),
    evOps P ops gs i os S ans = some (c, p, S', ans', ks) → allB c = true → (∀ q ∈ p, q) →
    ∃ T : Nat → St, T 0 = S ∧ T os.length = S' ∧ ∀ (j : Nat) o, os[j]? = some o → Step2 P ops o (T j) (T (j + 1)) (ks.getD j 0)
  | [], i, S, S', ans, ans', c, p, ks, h, _, _ => by
    simp only [evOps, Option.some.injEq, Prod.mk.injEq] at h
    exact ⟨fun _ => S, rfl, h.2.2.1, fun j o ho => by simp at ho⟩
  | o :: os, i, S, S', ans, ans', c, p, ks, h, hc, hp => by
    have glue : ∀ (S1 : St) (k : Nat) (ks' : List Nat), Step2 P ops o S S1 k → (∃ T : Nat → St, T 0 = S1 ∧ T os.length = S' ∧ ∀ (j : Nat) o, os[j]? = some o → Step2 P ops o (T j) (T (j + 1)) (ks'.getD j 0)) →
        ∃ T : Nat → St, T 0 = S ∧ T (o :: os).length = S' ∧ ∀ (j : Nat) o', (o :: os)[j]? = some o' → Step2 P ops o' (T j) (T (j + 1)) ((k :: ks').getD j 0) := by
      intro S1 k ks' hs ⟨T, h0, h1, h2⟩
      refine ⟨fun j => match j with | 0 => S | j + 1 => T j, rfl, by simpa using h1, fun j o' ho' => ?_⟩
      cases j with
      | zero => simp at ho'; subst ho'; simp only [h0]; exact hs
      | succ j => simp at ho'; exact h2 j o' ho'
    unfold evOps at h
    split at h
    · cases h
    rename_i hgk
    split at h
    · rename_i hw
      split at h
      · rename_i r ans1 hev
        split at h
        · rename_i c1 p1 v ans2 hset
          rw [forceL_eq, forceL_eq] at h
          split at h
          · rename_i c2 p2 S2 ans3 ks' hrec
            simp only [Option.some.injEq, Prod.mk.injEq] at h
            obtain ⟨rfl, rfl, rfl, rfl, rfl⟩ := h
            simp only [allB_cons, Bool.and_eq_true] at hc
            obtain ⟨hok, hc1, hc2⟩ := hc
            have hout := evOp_memR hev hok fun q hq => hp q (List.mem_append_left _ hq)
            have hv := settle_spec hset hc1 fun q hq => hp q (List.mem_append_right _ (List.mem_append_left _ hq))
            subst hv
            exact glue _ _ _ ⟨hgk, .inr ⟨hw, r.v, rfl, hout⟩⟩ (evOps_trace os (i + 1) _ _ _ _ _ _ _ hrec hc2 fun q hq => hp q (List.mem_append_right _ (List.mem_append_right _ hq)))
          · cases h
        · cases h
      · cases h
    · rename_i hw
      split at h
      · rename_i c2 p2 S2 ans3 ks' hrec
        simp only [Option.some.injEq, Prod.mk.injEq] at h
        obtain ⟨rfl, rfl, rfl, rfl, rfl⟩ := h
        exact glue ⟨putL S.tmps o.dst undef, S.mem⟩ _ _ ⟨hgk, .inl ⟨hw, rfl, rfl, rfl⟩⟩ (evOps_trace os (i + 1) _ _ _ _ _ _ _ hrec hc hp)
      · cases h

theorem evOps_traceG {ops : Array Oper} {gs : List Nat} : ∀ (os : List Oper) (i : Nat) (S S' : St) (ans ans' : List Ans) (c : List Bool) (p : List Prop) (ks : List Nat),
    evOps P ops gs i os S ans = some (c, p, S', ans', ks) → allB c = true → (∀ q ∈ p, q) → (∀ k ∈ ks, k ≠ 2 ∧ k ≠ 2000000004) →
    ∃ T : Nat → St, T 0 = S ∧ T os.length = S' ∧ ∀ (j : Nat) o, os[j]? = some o → StepG P ops o (T j) (T (j + 1)) (ks.getD j 0)
  | [], i, S, S', ans, ans', c, p, ks, h, _, _, _ => by
    simp only [evOps, Option.some.injEq, Prod.mk.injEq] at h
    exact ⟨fun _ => S, rfl, h.2.2.1, fun j o ho => by simp at ho⟩
  | o :: os, i, S, S', ans, ans', c, p, ks, h, hc, hp, hk => by
    have glue : ∀ (S1 : St) (k : Nat) (ks' : List Nat), StepG P ops o S S1 k → (∃ T : Nat → St, T 0 = S1 ∧ T os.length = S' ∧ ∀ (j : Nat) o, os[j]? = some o → StepG P ops o (T j) (T (j + 1)) (ks'.getD j 0)) →
        ∃ T : Nat → St, T 0 = S ∧ T (o :: os).length = S' ∧ ∀ (j : Nat) o', (o :: os)[j]? = some o' → StepG P ops o' (T j) (T (j + 1)) ((k :: ks').getD j 0) := by
      intro S1 k ks' hs ⟨T, h0, h1, h2⟩
      refine ⟨fun j => match j with | 0 => S | j + 1 => T j, rfl, by simpa using h1, fun j o' ho' => ?_⟩
      cases j with
      | zero => simp at ho'; subst ho'; simp only [h0]; exact hs
      | succ j => simp at ho'; exact h2 j o' ho'
    unfold evOps at h
    split at h
    · cases h
    rename_i hgk
    split at h
    · rename_i hw
      split at h
      · rename_i r ans1 hev
        split at h
        · rename_i c1 p1 v ans2 hset
          rw [forceL_eq, forceL_eq] at h
          split at h
          · rename_i c2 p2 S2 ans3 ks' hrec
            simp only [Option.some.injEq, Prod.mk.injEq] at h
            obtain ⟨rfl, rfl, rfl, rfl, rfl⟩ := h
            simp only [allB_cons, Bool.and_eq_true] at hc
            obtain ⟨hok, hc1, hc2⟩ := hc
            have hout := evOp_memG hev hok (fun q hq => hp q (List.mem_append_left _ hq)) (hk _ (List.mem_cons_self ..))
            have hv := settle_spec hset hc1 fun q hq => hp q (List.mem_append_right _ (List.mem_append_left _ hq))
            subst hv
            exact glue _ _ _ ⟨hgk, .inr ⟨hw, r.v, rfl, hout⟩⟩ (evOps_traceG os (i + 1) _ _ _ _ _ _ _ hrec hc2 (fun q hq => hp q (List.mem_append_right _ (List.mem_append_right _ hq))) fun k hk' => hk k (List.mem_cons_of_mem _ hk'))
          · cases h
        · cases h
      · cases h
    · rename_i hw
      split at h
      · rename_i c2 p2 S2 ans3 ks' hrec
        simp only [Option.some.injEq, Prod.mk.injEq] at h
        obtain ⟨rfl, rfl, rfl, rfl, rfl⟩ := h
        exact glue ⟨putL S.tmps o.dst undef, S.mem⟩ _ _ ⟨hgk, .inl ⟨hw, rfl, rfl, rfl⟩⟩ (evOps_traceG os (i + 1) _ _ _ _ _ _ _ hrec hc hp fun k hk' => hk k (List.mem_cons_of_mem _ hk'))
      · cases h

/-! ### Code -/
structure Res where
  ok : List Bool
  obs : List Prop
  e : Exit
  S : St
  ans : List Ans

def Res.and (r r2 : Res) : Res := ⟨r.ok ++ r2.ok, r.obs ++ r2.obs, r2.e, r2.S, r2.ans⟩

/-- A loop from the head of a round. -/
def TriL (P : Program) (c : Code) (S : St) (Q : Exit → St → Prop) : Prop :=
  ∀ ρ a w, ARel ρ S a w → ∀ (b : Frame) (k : List Item) (cs : List Frame),
    ∃ e a' w', (∃ S' ρ', Q e S' ∧ ARel ρ' S' a' w' ∧ Mv ρ S.mem w ρ' S'.mem w') ∧ Arrives P (lone (b.at a (.code c :: .inLoop c :: k)) cs w) b k cs e a' w'
def thenL (P : Program) (c : Code) (Q : Exit → St → Prop) : Exit → St → Prop
  | .normal, S => TriL P c S Q
  | e, S => Q e S
theorem TriL.step {c : Code} {S : St} {Q : Exit → St → Prop} (h : Tri P c S (thenL P c Q)) : TriL P c S Q := by
  intro ρ a w hr b k cs
  obtain ⟨e, a1, w1, ⟨S1, ρ1, q, r1, m1⟩, harr⟩ := h ρ a w hr b (.inLoop c :: k) cs
  cases e with
  | normal =>
    obtain ⟨e2, a2, w2, ⟨S2, ρ2, q2, r2, m2⟩, harr2⟩ := q ρ1 a1 w1 r1 b k cs
    exact ⟨e2, a2, w2, ⟨S2, ρ2, q2, r2, m1.trans hr.mem m2⟩, .of_steps (Steps.trans harr (.one step_inLoop)) harr2⟩
  | exit id => exact ⟨_, a1, w1, ⟨S1, ρ1, q, r1, m1⟩, .pass (x := .inLoop c) rfl (fun _ _ => .inl (by simp)) harr⟩
  | goto l => exact ⟨_, a1, w1, ⟨S1, ρ1, q, r1, m1⟩, .pass (x := .inLoop c) rfl (fun _ _ => .inl (by simp)) harr⟩
  | ret => exact ⟨_, a1, w1, ⟨S1, ρ1, q, r1, m1⟩, .pass (x := .inLoop c) rfl (fun _ _ => .inl (by simp)) harr⟩
  | panic ch => exact ⟨_, a1, w1, ⟨S1, ρ1, q, r1, m1⟩, .pass (x := .inLoop c) rfl (fun _ _ => .inl (by simp)) harr⟩
  | outgrown => exact ⟨_, a1, w1, ⟨S1, ρ1, q, r1, m1⟩, .pass (x := .inLoop c) rfl (fun _ _ => .inl (by simp)) harr⟩
theorem TriL.tri {c : Code} {S : St} {Q : Exit → St → Prop} (h : TriL P c S Q) : Tri P (.loop c) S Q := by
  intro ρ a w hr b k cs
  obtain ⟨e, a', w', hq, harr⟩ := h ρ a w hr b k cs
  exact ⟨e, a', w', hq, .of_steps (.one step_loop) harr⟩
theorem TriL.unmask {c : Code} {S : St} {Q : Exit → St → Prop} (live : List Nat) (h : TriL P c (maskS live S) Q) : TriL P c S Q :=
  fun ρ a w hr => h ρ a w (hr.mask live)
/-- A loop of n rounds, state by state, and then out. -/
theorem TriL.count {c : Code} {e : Exit} {S' : St} (st : Nat → St) (he : e ≠ .normal) (n : Nat) (hr : ∀ i, i < n → Tri P c (st i) (to .normal (st (i + 1)))) (hend : Tri P c (st n) (to e S')) : TriL P c (st 0) (to e S') := by
  have key : ∀ m i, i + m = n → TriL P c (st i) (to e S') := by
    intro m
    induction m with
    | zero =>
      intro i hi
      have : i = n := by omega
      subst this
      refine TriL.step (hend.mono ?_)
      rintro e1 S1 ⟨rfl, rfl⟩
      unfold thenL
      split
      · exact absurd rfl he
      · exact ⟨rfl, rfl⟩
    | succ m ih =>
      intro i hi
      refine TriL.step ((hr i (by omega)).mono ?_)
      rintro e1 S1 ⟨rfl, rfl⟩
      exact ih (i + 1) (by omega)
  exact key n 0 (by omega)
theorem TriL.mono {c : Code} {S : St} {Q Q' : Exit → St → Prop} (h : TriL P c S Q) (hq : ∀ e S, Q e S → Q' e S) : TriL P c S Q' :=
  fun ρ a w hr b k cs => let ⟨e, a', w', ⟨S', ρ', q, r⟩, harr⟩ := h ρ a w hr b k cs; ⟨e, a', w', ⟨S', ρ', hq _ _ q, r⟩, harr⟩

def evC (P : Program) : Nat → Code → St → List Ans → Option Res
  | 0, _, _, _ => none
  | n + 1, c, S, ans =>
    match c with
    | .skip | .label _ => some ⟨[], [], .normal, S, ans⟩
    | .region _ ops draw =>
      match evOps P ops (guardsOf ops.toList) 0 ops.toList S ans with
      | some (ok, obs, S', ans', ks) => if !draw || (fitsB ops (classes S.mem.length ks) || fitsG ops ks) then some ⟨ok, obs, .normal, S', ans'⟩ else none
      | none => none
    | .seq a b =>
      match evC P n a S ans with
      | some r => match r.e with
        | .normal => match evC P n b r.S r.ans with
          | some r2 => some (r.and r2)
          | none => none
        | _ => some r
      | none => none
    | .cond c x y =>
      match S.eval c, ans with
      | some (.bool b), .tst t :: ans' => match evC P n (if t then x else y) S ans' with
        | some r => some { r with ok := eqB b t :: r.ok }
        | none => none
      | _, .tst _ :: _ => none
      | some (.bool true), .auto :: ans' => evC P n x S ans'
      | some (.bool false), .auto :: ans' => evC P n y S ans'
      | some (.bool true), ans => evC P n x S ans
      | some (.bool false), ans => evC P n y S ans
      | _, _ => none
    | .block id body =>
      match evC P n body S ans with
      | some r => match r.e with
        | .exit id' => if id' = id then some { r with e := .normal } else some r
        | _ => some r
      | none => none
    | .loop body =>
      match ans with
      | .cut live e S' :: ans' => some ⟨[], [TriL P body (maskS live S) (to e S')], e, S', ans'⟩
      | ans =>
      match evC P n body S ans with
      | some r => match r.e with
        | .normal => match evC P n (.loop body) r.S r.ans with
          | some r2 => some (r.and r2)
          | none => none
        | _ => some r
      | none => none
    | .exit id => some ⟨[], [], .exit id, S, ans⟩
    | .goto l => some ⟨[], [], .goto l, S, ans⟩
    | .ret => some ⟨[], [], .ret, S, ans⟩
    | _ => none

/-- The end that a result tells. -/
def Res.Q (r : Res) : Exit → St → Prop := fun e S => e = r.e ∧ S = r.S

theorem Res.and_sound {r r2 : Res} (hok : allB (r.and r2).ok = true) (hobs : ∀ p ∈ (r.and r2).obs, p) : (allB r.ok = true ∧ ∀ p ∈ r.obs, p) ∧ allB r2.ok = true ∧ ∀ p ∈ r2.obs, p := by
  simp only [Res.and, allB_append, Bool.and_eq_true] at hok
  exact ⟨⟨hok.1, fun p hp => hobs p (List.mem_append_left _ hp)⟩, hok.2, fun p hp => hobs p (List.mem_append_right _ hp)⟩

theorem evC_sound (hm : P.follows .mixedOrders = true) : ∀ (n : Nat) (c : Code) (S : St) (ans : List Ans) (r : Res), evC P n c S ans = some r → allB r.ok = true → (∀ p ∈ r.obs, p) →
    Tri P c S r.Q ∧ ∀ body, c = .loop body → TriL P body S r.Q
  | 0, _, _, _, _, h, _, _ => by simp [evC] at h
  | n + 1, c, S, ans, r, h, hok, hobs => by
    have ih := evC_sound hm n
    unfold evC at h
    cases c with
    | skip => cases h; exact ⟨.skip ⟨rfl, rfl⟩, fun _ e => by cases e⟩
    | label l => cases h; exact ⟨.label ⟨rfl, rfl⟩, fun _ e => by cases e⟩
    | region id ops draw =>
      refine ⟨?_, fun _ e => by cases e⟩
      simp only at h
      split at h
      · rename_i ok obs S' ans' ks hev
        split at h
        · rename_i hf
          cases h
          obtain ⟨T, h0, h1, h2⟩ := evOps_trace _ _ _ _ _ _ _ _ _ hev hok hobs
          have hT : Trace P ops T (fun i => (classes S.mem.length ks).getD i 0) := by
            have := trace_of_steps (P := P) (ops := ops) (T := T) (cs := ks) (by rw [evOps_len _ _ _ _ _ _ _ _ _ hev]; simp) fun j o ho => h2 j o (by rw [Array.getElem?_toList]; exact ho)
            rw [h0] at this
            exact this
          rw [← h0]
          cases draw with
          | false =>
            refine region_of_trace hm hT (fun hd => by cases hd) ⟨rfl, ?_⟩
            simpa using h1
          | true =>
            simp only [Bool.not_true, Bool.false_or, Bool.or_eq_true] at hf
            rcases hf with hf | hf
            · refine region_of_trace hm hT (fun _ => fitsB_spec (by rw [h0] at *; exact hf)) ⟨rfl, ?_⟩
              simpa using h1
            · obtain ⟨hF, hne⟩ := fitsG_spec hf
              obtain ⟨T', g0, g1, g2⟩ := evOps_traceG _ _ _ _ _ _ _ _ _ hev hok hobs hne
              have hT' : TraceG P ops T' (fun i => ks.getD i 0) := fun i hi => ⟨ops[i], Array.getElem?_eq_getElem hi, g2 i _ (by rw [Array.getElem?_toList]; exact Array.getElem?_eq_getElem hi)⟩
              rw [h0, ← g0]
              refine region_of_traceG hm hT' hF ⟨rfl, ?_⟩
              simpa using g1
        · cases h
      · cases h
    | seq a b =>
      refine ⟨?_, fun _ e => by cases e⟩
      simp only at h
      split at h
      · rename_i r1 h1
        split at h
        · rename_i he
          split at h
          · rename_i r2 h2
            cases h
            obtain ⟨⟨o1, p1⟩, o2, p2⟩ := Res.and_sound hok hobs
            refine Tri.seq ((ih a S ans r1 h1 o1 p1).1.mono ?_)
            rintro e S1 ⟨rfl, rfl⟩
            rw [he]
            exact (ih b r1.S r1.ans r2 h2 o2 p2).1
          · cases h
        · rename_i hne
          cases h
          refine Tri.seq ((ih a S ans _ h1 hok hobs).1.mono ?_)
          rintro e S1 ⟨rfl, rfl⟩
          unfold thenQ
          split
          · rename_i he; exact absurd he hne
          · exact ⟨rfl, rfl⟩
      · cases h
    | cond c x y =>
      refine ⟨?_, fun _ e => by cases e⟩
      simp only at h
      split at h
      · rename_i b t ans' hc
        split at h
        · rename_i r1 h1
          cases h
          simp only [allB_cons, Bool.and_eq_true] at hok
          obtain ⟨h0, hok⟩ := hok
          rw [eqB_eq h0] at hc
          exact Tri.cond hc (ih _ S ans' r1 h1 hok hobs).1
        · cases h
      · cases h
      · exact Tri.cond (t := true) (by assumption) (ih _ S _ r h hok hobs).1
      · exact Tri.cond (t := false) (by assumption) (ih _ S _ r h hok hobs).1
      · exact Tri.cond (t := true) (by assumption) (ih _ S _ r h hok hobs).1
      · exact Tri.cond (t := false) (by assumption) (ih _ S _ r h hok hobs).1
      · cases h
    | block id body =>
      refine ⟨?_, fun _ e => by cases e⟩
      simp only at h
      split at h
      · rename_i r1 h1
        refine Tri.block ?_
        split at h
        · rename_i id' he
          split at h
          · rename_i hid
            cases h
            refine (ih body S ans r1 h1 hok hobs).1.mono ?_
            rintro e S1 ⟨rfl, rfl⟩
            rw [he]
            simp only [inBlockQ]
            rw [if_pos hid]
            exact ⟨rfl, rfl⟩
          · rename_i hid
            cases h
            refine (ih body S ans _ h1 hok hobs).1.mono ?_
            rintro e S1 ⟨rfl, rfl⟩
            rw [he]
            simp only [inBlockQ]
            rw [if_neg hid]
            exact ⟨he.symm, rfl⟩
        · rename_i hne
          cases h
          refine (ih body S ans _ h1 hok hobs).1.mono ?_
          rintro e S1 ⟨rfl, rfl⟩
          unfold inBlockQ
          split
          · rename_i he; exact absurd he (hne _)
          · exact ⟨rfl, rfl⟩
      · cases h
    | loop body =>
      have key : TriL P body S r.Q := by
        simp only at h
        split at h
        · cases h
          exact TriL.unmask _ (hobs _ (List.mem_singleton.2 rfl))
        split at h
        · rename_i r1 h1
          split at h
          · rename_i he
            split at h
            · rename_i r2 h2
              cases h
              obtain ⟨⟨o1, p1⟩, o2, p2⟩ := Res.and_sound hok hobs
              refine TriL.step ((ih body S ans r1 h1 o1 p1).1.mono ?_)
              rintro e S1 ⟨rfl, rfl⟩
              rw [he]
              exact (ih (.loop body) r1.S r1.ans r2 h2 o2 p2).2 body rfl
            · cases h
          · rename_i hne
            cases h
            refine TriL.step ((ih body S ans _ h1 hok hobs).1.mono ?_)
            rintro e S1 ⟨rfl, rfl⟩
            unfold thenL
            split
            · rename_i he; exact absurd he hne
            · exact ⟨rfl, rfl⟩
        · cases h
      exact ⟨key.tri, fun b e => by cases e; exact key⟩
    | exit id => cases h; exact ⟨.exit ⟨rfl, rfl⟩, fun _ e => by cases e⟩
    | goto l => cases h; exact ⟨.goto ⟨rfl, rfl⟩, fun _ e => by cases e⟩
    | ret => cases h; exact ⟨.ret ⟨rfl, rfl⟩, fun _ e => by cases e⟩
    | rangeFunc => cases h
    | scope => cases h
    | refuse => cases h

/-- The loops of a code, from without and from the front. -/
def loopsOf : Code → List Code
  | .loop c => c :: loopsOf c
  | .seq a b => loopsOf a ++ loopsOf b
  | .cond _ a b => loopsOf a ++ loopsOf b
  | .block _ c => loopsOf c
  | _ => []
def loopN (fn : Func) (k : Nat) : Code := match fn.body with
  | some c => match (loopsOf c)[k]? with
    | some b => b
    | none => .skip
  | none => .skip
/-- A piece of code from a state to a state: what its text gives, of the slots that are named. -/
def evM (P : Program) (c : Code) (fuel : Nat) (live : List Nat) (S : St) (ans : List Ans) : Option (Bool × List Prop × Exit × St) :=
  match evC P fuel c S ans with
  | some r => some (allB r.ok, r.obs, r.e, maskS live r.S)
  | none => none
/-! ### Functions -/
def resVar (P : Program) (S : St) : ResultVar → Option (Bool × Value)
  | .tmp t => if isTuple (S.tmps.getD t undef) then none else some (true, S.tmps.getD t undef)
  | .cell a t => loadOp P S.mem t (S.tmps.getD a undef)
def resVars (P : Program) (S : St) : List ResultVar → Option (Bool × List Value)
  | [] => some (true, [])
  | x :: xs => match resVar P S x, resVars P S xs with
    | some (c, v), some (c2, vs) => some (c && c2, v :: vs)
    | _, _ => none
def oneOrTuple : List Value → Value
  | [v] => v
  | vs => .tuple vs.toArray
def resOf (P : Program) (fn : Func) (S : St) : Option (Bool × Value) :=
  match resVars P S fn.results.toList with
  | some (c, vs) => some (c, oneOrTuple vs)
  | none => none

theorem loadOp_noTuple {mem : Mem} {t : TypeId} {x v : Value} {ρ : Ren} {w : World} {u : Value} (h : loadOp P mem t x = some (true, v)) (hx : VR ρ x u) (hM : MRel ρ mem w) : ∃ r, VR2 ρ v r ∧ (Instr.loadAt t u).run P w = .ok r w := by
  obtain ⟨r, hr, hrun⟩ := loadOp_sound h (fun _ _ h => h) hx hM
  refine ⟨r, ?_, hrun⟩
  rw [← VR_of2 ?_]; exact hr
  intro vs hvs
  subst hvs
  unfold loadOp at h
  split at h
  · rename_i k off
    obtain ⟨b, s, hρ, rfl⟩ := VR_ptr.1 hx
    split at h
    · rename_i B hB
      split at h
      · simp at h
      · split at h
        · simp only [Option.some.injEq, Prod.mk.injEq, decide_eq_true_eq] at h
          obtain ⟨hlt, he⟩ := h
          have hg : B.cells[off]? = some (.tuple vs) := by rw [← he, List.getD_eq_getElem?_getD, List.getElem?_eq_getElem hlt]; rfl
          obtain ⟨u, hu, _⟩ := hM.cellAt hρ hB hg
          cases hu
        · cases h
    · cases h
  · cases h

/-- A result as the machine reads it. -/
def resSem (a : Act) : ResultVar → Sem Value
  | .tmp t => pure (a.tmps.getD t undef)
  | .cell p t => do loadVar t (← asAddr (a.tmps.getD p undef))
theorem resVar_sound {S : St} {x : ResultVar} {v : Value} {ρ : Ren} {a : Act} {w : World} (h : resVar P S x = some (true, v)) (hr : ARel ρ S a w) :
    ∃ u, VR2 ρ v u ∧ (resSem a x).run P w = .ok u w := by
  have hget : ∀ t, VR ρ (S.tmps.getD t undef) (a.tmps.getD t undef) := fun t => by
    have := hr.tmps.getD t (VR_undef (ρ := ρ))
    simpa using this
  cases x with
  | tmp t =>
    simp only [resVar] at h
    split at h
    · cases h
    · rename_i hn
      cases h
      refine ⟨a.tmps.getD t undef, ?_, rfl⟩
      rw [← VR_of2 (fun vs hvs => hn (by rw [hvs]; rfl))]
      exact hget t
  | cell p t =>
    simp only [resVar] at h
    obtain ⟨u, hu, hrun⟩ := loadOp_noTuple h (hget p) hr.mem
    refine ⟨u, hu, ?_⟩
    unfold loadOp at h
    split at h
    · rename_i k off hp
      have := hget p
      rw [hp] at this
      obtain ⟨b, s, hρ, he⟩ := VR_ptr.1 this
      rw [he] at hrun
      simp only [resSem, he]
      simpa [Instr.loadAt, Instr.sureAddr, asAddr] using hrun
    · cases h

theorem resVars_sound {S : St} {ρ : Ren} {a : Act} {w : World} (hr : ARel ρ S a w) : ∀ (xs : List ResultVar) (vs : List Value), resVars P S xs = some (true, vs) →
    ∃ us, PW (VR2 ρ) vs us ∧ (xs.mapM (resSem a)).run P w = .ok us w
  | [], vs, h => by simp only [resVars, Option.some.injEq, Prod.mk.injEq, true_and] at h; subst h; exact ⟨[], PW.nil, by simp⟩
  | x :: xs, vs, h => by
    unfold resVars at h
    split at h
    · rename_i c v c2 vs' h1 h2
      simp only [Option.some.injEq, Prod.mk.injEq, Bool.and_eq_true] at h
      obtain ⟨⟨rfl, rfl⟩, rfl⟩ := h
      obtain ⟨u, hu, hrun⟩ := resVar_sound h1 hr
      obtain ⟨us, hus, hruns⟩ := resVars_sound hr xs vs' h2
      refine ⟨u :: us, PW.cons hu hus, ?_⟩
      rw [List.mapM_cons, Sem.run_bind, hrun]
      simp only [Result.andThen_ok, Sem.run_bind, hruns, Sem.run_pure]
    · cases h

theorem resOf_sound {fn : Func} {S : St} {v : Value} {ρ : Ren} {a : Act} {w : World} (h : resOf P fn S = some (true, v)) (hr : ARel ρ S a w) : ∃ u, VR ρ v u ∧ (results fn a.tmps).run P w = .ok u w := by
  unfold resOf at h
  split at h
  · rename_i c vs hv
    cases h
    obtain ⟨us, hus, hrun⟩ := resVars_sound hr _ _ hv
    have hres : (results fn a.tmps).run P w = .ok (if h : us.toArray.size = 1 then us.toArray[0] else .tuple us.toArray) w := by
      have he : results fn a.tmps = (fn.results.mapM (resSem a) >>= fun vs => pure (if h : vs.size = 1 then vs[0] else .tuple vs)) := rfl
      rw [he, Array.mapM_eq_mapM_toList]
      simp only [Sem.run_bind, Sem.run_map, hrun, Result.andThen_ok, Sem.run_pure]
    have hl := hus.1
    match vs, us, hus, hl, hres with
    | [], [], hus, _, hres => exact ⟨_, (VR_tuple rfl).2 ⟨#[], rfl, PW.nil⟩, by simpa using hres⟩
    | [v], [u], hus, _, hres => exact ⟨u, (hus.2 0 v u rfl rfl).toVR, by simpa using hres⟩
    | v :: v2 :: vs, u :: u2 :: us, hus, _, hres => exact ⟨.tuple (u :: u2 :: us).toArray, (VR_tuple rfl).2 ⟨_, rfl, hus⟩, by simpa using hres⟩
  · cases h

def Exit.isEnd : Exit → Bool
  | .normal | .ret => true
  | _ => false

/-- A function's body from its arguments on, as states. -/
theorem CT.of_tri {f : FuncId} {fn : Func} {c : Code} (hf : P.funcs[f]? = some fn) (hb : fn.body = some c) {args : List Value} {mem : Mem} {Q : Value → Mem → Prop}
    (h : Tri P c ⟨args ++ List.replicate (fn.ntmps - args.length) undef, mem⟩ fun e S => Exit.isEnd e = true ∧ ∃ v, resOf P fn S = some (true, v) ∧ Q v S.mem) : CT P f args mem Q := by
  intro ρ w us hus hM
  refine calls_of_wp hf hb ?_
  have hlen : us.length = args.length := hus.1.symm
  refine wp_mono (h ρ _ w ⟨?_, rfl, hM⟩) ?_
  · simp only [List.size_toArray, hlen]
    simp only [Array.toList_append, Array.toList_replicate]
    exact hus.append (PW.replicate _ VR_undef)
  · rintro e a' w' ⟨S', ρ', ⟨he, v, hv, hq⟩, hr, hmv⟩
    obtain ⟨u, hu, hrun⟩ := resOf_sound hv hr
    have key : ∃ v, (results fn a'.tmps).run P w' = .ok v w' ∧ ∃ v' mem' ρ' u, Ending.returned v = .returned u ∧ Q v' mem' ∧ VR ρ' v' u ∧ MRel ρ' mem' w' ∧ Mv ρ mem w ρ' mem' w' :=
      ⟨u, hrun, v, S'.mem, ρ', u, rfl, hq, hu, hr.mem, hmv⟩
    cases e with
    | normal => exact ⟨hr.defers, key⟩
    | ret => exact ⟨hr.defers, key⟩
    | exit id => cases he
    | goto l => cases he
    | panic ch => cases he
    | outgrown => cases he

structure FRes where
  ok : Bool
  obs : List Prop
  v : Value
  mem : Mem

def evFn (P : Program) (fn : Func) (fuel : Nat) (args : List Value) (mem : Mem) (ans : List Ans) : Option FRes :=
  match fn.body with
  | some c => match evC P fuel c ⟨args ++ List.replicate (fn.ntmps - args.length) undef, mem⟩ ans with
    | some r => if Exit.isEnd r.e then
        match resOf P fn r.S with
        | some (c2, v) => some ⟨allB (r.ok ++ [c2]), r.obs, v, r.S.mem⟩
        | none => none
      else none
    | none => none
  | none => none

theorem CT.of_ev (hm : P.follows .mixedOrders = true) {f : FuncId} {fn : Func} (hf : P.funcs[f]? = some fn) {fuel : Nat} {args : List Value} {mem : Mem} {ans : List Ans} {r : FRes}
    (h : evFn P fn fuel args mem ans = some r) (hok : r.ok = true) (hobs : ∀ p ∈ r.obs, p) : CT P f args mem fun v m => v = r.v ∧ m = r.mem := by
  unfold evFn at h
  split at h
  · rename_i c hb
    split at h
    · rename_i r1 h1
      split at h
      · rename_i he
        split at h
        · rename_i c2 v hv
          cases h
          simp only [allB_append, allB_cons, Bool.and_eq_true] at hok
          obtain ⟨hok, rfl, _⟩ := hok
          refine CT.of_tri hf hb ((evC_sound hm _ _ _ _ _ h1 hok hobs).1.mono ?_)
          rintro e S ⟨rfl, rfl⟩
          exact ⟨he, v, hv, rfl, rfl⟩
        · cases h
      · cases h
    · cases h
  · cases h

/-- A function of values without addresses. -/
theorem PC.of_ev (hm : P.follows .mixedOrders = true) {f : FuncId} {fn : Func} (hf : P.funcs[f]? = some fn) {fuel : Nat} {args : List Value} {ans : List Ans} {r : FRes} (ha : args.all flat = true)
    (h : evFn P fn fuel args [] ans = some r) (hok : r.ok = true) (hobs : ∀ p ∈ r.obs, p) (hv : flat r.v = true) : PC P f args r.v := by
  refine PC.of_ct ha hv ?_
  intro ρ w us hus hM
  exact (CT.of_ev hm hf h hok hobs ρ w us hus hM).mono fun e w' ⟨v', m, ρ', u, h1, h2, h3⟩ => ⟨v', m, ρ', u, h1, h2.1, h3⟩

/-- The same, the memory left out. -/
def evFn3 (P : Program) (fn : Func) (fuel : Nat) (args : List Value) (ans : List Ans) : Option (Bool × List Prop × Value) :=
  match evFn P fn fuel args [] ans with
  | some r => some (r.ok, r.obs, r.v)
  | none => none
def allP : List Prop → Prop
  | [] => True
  | p :: ps => p ∧ allP ps
theorem allP_iff : ∀ {ps : List Prop}, allP ps → ∀ p ∈ ps, p
  | [], _, p, h => by cases h
  | q :: ps, ⟨h1, h2⟩, p, h => by
    rcases List.mem_cons.1 h with rfl | h
    · exact h1
    · exact allP_iff h2 p h
theorem allP_map {α : Type} {f : α → Prop} : ∀ {l : List α}, (∀ a ∈ l, f a) → allP (l.map f)
  | [], _ => trivial
  | a :: l, h => ⟨h a (by simp), allP_map fun b hb => h b (by simp [hb])⟩

theorem Tri.of_ev (hm : P.follows .mixedOrders = true) {c : Code} (fuel : Nat) (live : List Nat) {S S' : St} {e : Exit} (ans : List Ans) {ok : Bool} {obs : List Prop}
    (h : evM P c fuel live S ans = some (ok, obs, e, S')) (hok : ok = true) (hobs : allP obs) : Tri P c S (to e S') := by
  unfold evM at h
  split at h
  · rename_i r hr
    cases h
    exact Tri.mask (evC_sound hm _ _ _ _ _ hr hok (allP_iff hobs)).1 live
  · cases h
/-! ### Blocks left behind -/
def noNew1 (n : Nat) : Value → Bool
  | .pointer (some a) => decide (a.block < n)
  | .slice (some a) _ _ => decide (a.block < n)
  | _ => true
def noNew2 (n : Nat) : Value → Bool
  | .agg cs => cs.toList.all (noNew1 n)
  | v => noNew1 n v
def noNew (n : Nat) : Value → Bool
  | .tuple vs => isWild vs.toList || vs.toList.all (noNew2 n)
  | v => noNew2 n v
def cutR (n : Nat) (ρ : Ren) : Ren := fun k => if k < n then ρ k else none
theorem cutR_some {n k : Nat} {ρ : Ren} {x : Nat × Nat} : cutR n ρ k = some x ↔ k < n ∧ ρ k = some x := by
  unfold cutR
  by_cases h : k < n
  · rw [if_pos h]; exact ⟨fun e => ⟨h, e⟩, fun e => e.2⟩
  · rw [if_neg h]; exact ⟨fun e => (by cases e), fun e => absurd e.1 h⟩
theorem VR1_cut {n : Nat} {ρ : Ren} {v u : Value} (h : VR1 ρ v u) (hv : noNew1 n v = true) : VR1 (cutR n ρ) v u := by
  have hA : ∀ a : Addr, a.block < n → rA (cutR n ρ) a = rA ρ a := fun a ha => by
    unfold rA cutR
    rw [if_pos ha]
  cases v with
  | pointer a => cases a with
    | none => exact h
    | some a => simp only [noNew1, decide_eq_true_eq] at hv; unfold VR1 rC at *; simp only at *; rw [hA a hv]; exact h
  | slice a l c => cases a with
    | none => exact h
    | some a => simp only [noNew1, decide_eq_true_eq] at hv; unfold VR1 rC at *; simp only at *; rw [hA a hv]; exact h
  | _ => exact h
theorem PW_cut {α β : Type} {R R' : α → β → Prop} {p : α → Bool} (hp : ∀ a b, R a b → p a = true → R' a b) {l : List α} {m : List β} (h : PW R l m) (hl : l.all p = true) : PW R' l m :=
  ⟨h.1, fun i a b ha hb => hp a b (h.2 i a b ha hb) (List.all_eq_true.1 hl a (List.mem_of_getElem? ha))⟩
theorem VR2_cut {n : Nat} {ρ : Ren} {v u : Value} (h : VR2 ρ v u) (hv : noNew2 n v = true) : VR2 (cutR n ρ) v u := by
  unfold VR2 at *
  split at h
  · obtain ⟨us, rfl, hp⟩ := h
    exact ⟨us, rfl, PW_cut (p := noNew1 n) (fun _ _ => VR1_cut) hp hv⟩
  · rename_i hn
    have : noNew2 n v = noNew1 n v := by
      unfold noNew2
      split
      · exact absurd rfl (hn _)
      · rfl
    rw [this] at hv
    exact VR1_cut h hv
theorem VR_cut {n : Nat} {ρ : Ren} {v u : Value} (h : VR ρ v u) (hv : noNew n v = true) : VR (cutR n ρ) v u := by
  unfold VR at *
  split at h
  · simp only [noNew, Bool.or_eq_true] at hv
    rcases h with hw | ⟨us, rfl, hp⟩
    · exact .inl hw
    · rcases hv with hw | hv
      · exact .inl hw
      · exact .inr ⟨us, rfl, PW_cut (p := noNew2 n) (fun _ _ => VR2_cut) hp hv⟩
  · rename_i hn
    have : noNew n v = noNew2 n v := by
      unfold noNew
      split
      · exact absurd rfl (hn _)
      · rfl
    rw [this] at hv
    exact VR2_cut h hv
theorem MRel.drop {ρ : Ren} {mem : Mem} {w : World} (h : MRel ρ mem w) {n : Nat} (hc : ∀ B ∈ mem.take n, B.cells.all (noNew1 n) = true) : MRel (cutR n ρ) (mem.take n) w := by
  refine ⟨fun k b s hk => ?_, fun k b s k' b' s' B hk hk' hB ho hne => ?_⟩
  · obtain ⟨hkn, hk⟩ := cutR_some.1 hk
    obtain ⟨B, hB, hb, hcell⟩ := h.cell k b s hk
    have hB' : (mem.take n)[k]? = some B := by rw [List.getElem?_take, if_pos hkn]; exact hB
    refine ⟨B, hB', hb, fun i v hv => ?_⟩
    obtain ⟨⟨u, hu, hw⟩, hf⟩ := hcell i v hv
    exact ⟨⟨u, VR1_cut hu (List.all_eq_true.1 (hc B (List.mem_of_getElem? hB')) v (List.mem_of_getElem? hv)), hw⟩, hf⟩
  · obtain ⟨hkn, hk⟩ := cutR_some.1 hk
    obtain ⟨_, hk'⟩ := cutR_some.1 hk'
    rw [List.getElem?_take, if_pos hkn] at hB
    exact h.apart k b s k' b' s' B hk hk' hB ho hne
theorem Mv.drop {ρ ρ' : Ren} {mem mem' : Mem} {w w' : World} (hM : MRel ρ mem w) (h : Mv ρ mem w ρ' mem' w') {n : Nat} (hn : mem.length ≤ n) : Mv ρ mem w (cutR n ρ') (mem'.take n) w' := by
  refine ⟨fun k x hk => ?_, fun k x hk hk0 => h.new k x (cutR_some.1 hk).2 hk0, fun k B hB => ?_, h.os, h.tape, h.output, h.size, h.block⟩
  · obtain ⟨b, s⟩ := x
    obtain ⟨B, hB, _⟩ := hM.cell k b s hk
    have := (List.getElem?_eq_some_iff.1 hB).1
    exact cutR_some.2 ⟨by omega, h.sub k _ hk⟩
  · have := (List.getElem?_eq_some_iff.1 hB).1
    obtain ⟨B', hB', ho⟩ := h.kept k B hB
    exact ⟨B', by rw [List.getElem?_take, if_pos (by omega)]; exact hB', ho⟩
/-- The slots that are named, the first n blocks. -/
def maskD (live : List Nat) (n : Nat) (S : St) : St := ⟨maskT live 0 S.tmps, S.mem.take n⟩
def keepL (n : Nat) (S : St) : List Bool := S.tmps.map (noNew n) ++ S.mem.map fun B => B.cells.all (noNew1 n)
theorem allB_map {α : Type} {f : α → Bool} : ∀ {l : List α}, allB (l.map f) = true → ∀ a ∈ l, f a = true
  | [], _, a, h => by cases h
  | x :: l, h, a, ha => by
    rw [List.map_cons, allB_cons, Bool.and_eq_true] at h
    rcases List.mem_cons.1 ha with rfl | ha
    · exact h.1
    · exact allB_map h.2 a ha
theorem Tri.drop {c : Code} {S S1 : St} {e : Exit} (h : Tri P c S (to e S1)) (live : List Nat) {n : Nat} (hn : S.mem.length ≤ n) (hk : allB (keepL n (maskD live n S1)) = true) : Tri P c S (to e (maskD live n S1)) := by
  intro ρ a w hr
  refine wp_mono (h ρ a w hr) ?_
  rintro e' a' w' ⟨S', ρ', ⟨h1, h2⟩, r, m⟩
  subst h2
  rw [keepL, allB_append, Bool.and_eq_true] at hk
  refine ⟨_, cutR n ρ', ⟨h1, rfl⟩, ⟨?_, r.defers, r.mem.drop fun B hB => allB_map hk.2 B hB⟩, Mv.drop hr.mem m hn⟩
  exact PW_cut (p := noNew n) (fun _ _ => VR_cut) (maskT_rel r.tmps) (List.all_eq_true.2 fun v hv => allB_map hk.1 v hv)
/-- The same with the blocks from the n-th on left behind. -/
def evK (P : Program) (c : Code) (fuel : Nat) (live : List Nat) (n : Nat) (S : St) (ans : List Ans) : Option (Bool × List Prop × Exit × St) :=
  match evC P fuel c S ans with
  | some r => some (allB (r.ok ++ (decide (S.mem.length ≤ n) :: keepL n (maskD live n r.S))), r.obs, r.e, maskD live n r.S)
  | none => none
theorem Tri.of_evK (hm : P.follows .mixedOrders = true) {c : Code} (fuel : Nat) (live : List Nat) (n : Nat) {S S' : St} {e : Exit} (ans : List Ans) {ok : Bool} {obs : List Prop}
    (h : evK P c fuel live n S ans = some (ok, obs, e, S')) (hok : ok = true) (hobs : allP obs) : Tri P c S (to e S') := by
  unfold evK at h
  split at h
  · rename_i r hr
    cases h
    rw [allB_append, allB_cons, Bool.and_eq_true, Bool.and_eq_true, decide_eq_true_eq] at hok
    exact Tri.drop (evC_sound hm _ _ _ _ _ hr hok.1 (allP_iff hobs)).1 live hok.2.1 hok.2.2
  · cases h

/-- The values of n slots, by their numbers. -/
def slot (bs : List (Nat × Value)) (k : Nat) : Value := match bs with
  | [] => wild
  | (j, v) :: bs => match j.beq k with | true => v | false => slot bs k
def slots (n : Nat) (bs : List (Nat × Value)) : List Value := (List.range n).map (slot bs)

/-- A function of values without addresses: what its text gives, by the kernel; the tests and the calls that are owed. -/
theorem PC.of_ev3 (hm : P.follows .mixedOrders = true) {f : FuncId} {fn : Func} (hf : P.funcs[f]? = some fn) (fuel : Nat) {args : List Value} (ans : List Ans) {ok : Bool} {obs : List Prop} {v v' : Value}
    (h : evFn3 P fn fuel args ans = some (ok, obs, v)) (ha : args.all flat = true) (hok : ok = true) (hobs : allP obs) (hv : flat v = true) (he : v = v') : PC P f args v' := by
  subst he
  unfold evFn3 at h
  split at h
  · rename_i r hr
    cases h
    exact PC.of_ev hm hf ha hr hok (allP_iff hobs) hv
  · cases h

theorem enters {f : FuncId} {fn : Func} {c : Code} (hf : P.funcs[f]? = some fn) (hb : fn.body = some c) (hn : (fn.name == "runtime.NumGoroutine") = false) (us : Array Value) (w : World) : (callFunc f us).run P w = .ok (.enter f us) w := by
  have h1 : fn.name ≠ "runtime.NumGoroutine" := by simpa using hn
  simp [callFunc, hf, h1, hb]

theorem QC.of_pc {f : FuncId} {args : List Value} {v : Value} (he : ∀ us w, (callFunc f us).run P w = .ok (.enter f us) w) (h : PC P f args v) : QC P f args v := .inr ⟨fun w => he _ w, h⟩

end
end Go.Ev
