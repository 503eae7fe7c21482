/-
  Relative states, part F: copies, appends that find room, calls; one operation as a whole, and a region's operations in the order of the text.
-/
import Derived.Test.YtjmdppnhpfdhdaaEvE
import Derived.Laws.BytesString
namespace Go.Ev
section
variable {P : Program} {o : Oper} {E : Operand → Option Value} {v : Value} {ρ : Ren} {e : Operand → Value} {mem : Mem}

/-- Cells that are stored into a block of the code's own. -/
theorem store_row {w : World} {k b s : Nat} {B : Blk} (hM : MRel ρ mem w) (hk : ρ k = some (b, s)) (hB : mem[k]? = some B) (ho : B.own = true) {off : Nat} {vs us : List Value} (hn : off + vs.length ≤ B.cells.length) (hp : PW (VR1 ρ) vs us) :
    (storeCells ⟨b, s + off, none⟩ us).run P w = .ok () (w.setCells b (s + off) us) := by
  obtain ⟨B', hB', _, hold⟩ := hM.cell k b s hk
  rw [hB] at hB'
  cases hB'
  have hget : ∀ j, j < us.length → off + j < B.cells.length := fun j hj => by have := hp.1; omega
  have hst := run_storeCells_cells (P := P) b (s + off) us 0 w
    (fun j hj => by obtain ⟨⟨u, _, hw⟩, _⟩ := hold (off + j) _ (List.getElem?_eq_getElem (hget j hj)); rw [Nat.add_zero, Nat.add_assoc, hw]; rfl)
    (fun j hj => by have := (hold (off + j) _ (List.getElem?_eq_getElem (hget j hj))).2 ho; rw [Nat.add_zero, Nat.add_assoc]; exact this)
    (fun c hc' => by
      obtain ⟨j, hj⟩ := List.getElem?_of_mem hc'
      have hjl : j < vs.length := by have := hp.1; have := (List.getElem?_eq_some_iff.1 hj).1; omega
      exact isOne_oneCell (hp.2 j _ c (List.getElem?_eq_getElem hjl) hj).one)
  simpa using hst

def copyOp (P : Program) (mem : Mem) (dT : TypeId) (d x : Value) : Option (Bool × Mem × Value) :=
  match P.underlying dT, d, x with
  | some (.slice el), .slice (some ⟨k, off, none⟩) dLen _, .slice (some ⟨k2, off2, none⟩) sLen _ =>
    match mem[k]?, mem[k2]? with
    | some B, some B2 =>
      if B.own && (P.info? el).isSome then
        some (decide (off2 + Nat.min sLen dLen * P.cellsOf el ≤ B2.cells.length) && decide (off + Nat.min sLen dLen * P.cellsOf el ≤ B.cells.length),
          mem.set k { B with cells := setL B.cells off ((B2.cells.drop off2).take (Nat.min sLen dLen * P.cellsOf el)) }, .int .i64 (Nat.min sLen dLen))
      else none
    | _, _ => none
  | _, _, _ => none
theorem copyOp_sound {dT t : TypeId} {ts : Array TypeId} {d x ud ux : Value} {mem' : Mem} {w : World} (h : copyOp P mem dT d x = some (true, mem', v)) (hts : ts[0]? = some dT) (hd : VR ρ d ud) (hx : VR ρ x ux) (hM : MRel ρ mem w) :
    ∃ w', (Builtin.copy_ ts t #[ud, ux]).run P w = .ok v w' ∧ flat v = true ∧ MRel ρ mem' w' ∧ Mv ρ mem w ρ mem' w' := by
  unfold copyOp at h
  split at h
  · rename_i el k off dLen dCap k2 off2 sLen sCap ht
    obtain ⟨b, s, hρ, rfl⟩ := VR_slice.1 hd
    obtain ⟨b2, s2, hρ2, rfl⟩ := VR_slice.1 hx
    split at h
    · rename_i B B2 hB hB2
      split at h
      · rename_i hc
        simp only [Bool.and_eq_true] at hc
        simp only [Option.some.injEq, Prod.mk.injEq, Bool.and_eq_true, decide_eq_true_eq] at h
        obtain ⟨⟨h1, h2⟩, rfl, rfl⟩ := h
        obtain ⟨i, hi⟩ := Option.isSome_iff_exists.1 hc.2
        obtain ⟨us, hpw, hl, hcell⟩ := hM.row hρ2 hB2 h1
        have hlen : off + ((B2.cells.drop off2).take (Nat.min sLen dLen * P.cellsOf el)).length ≤ B.cells.length := by rw [hpw.1, hl]; exact h2
        have hload := run_loadCells_list (P := P) w ⟨b2, s2 + off2, none⟩ us (fun j v hv => by rw [Addr.add_lit]; exact hcell j v hv)
        rw [hl] at hload
        refine ⟨_, ?_, rfl, hM.setCells hρ hB hc.1 hlen hpw, Mv.setCells hρ hB hc.1 _ _ _⟩
        simp [Builtin.copy_, hts, run_underlying ht, Builtin.lenOf, Builtin.firstCells, run_sizeOf w hi, hload, store_row hM hρ hB hc.1 hlen hpw, goInt]
      · cases h
    · cases h
  · cases h

def appendOp (P : Program) (mem : Mem) (sT xT : TypeId) (d x : Value) : Option (Bool × Mem × Value) :=
  match P.underlying sT, P.underlying xT, d, x with
  | some (.slice el), some (.slice _), .slice (some ⟨k, off, none⟩) dLen cap, .slice (some ⟨k2, off2, none⟩) n _ =>
    match mem[k]?, mem[k2]? with
    | some B, some B2 =>
      if B.own && (P.info? el).isSome then
        some (decide (dLen + n ≤ cap) && decide (off2 + n * P.cellsOf el ≤ B2.cells.length) && decide (off + dLen * P.cellsOf el + n * P.cellsOf el ≤ B.cells.length),
          mem.set k { B with cells := setL B.cells (off + dLen * P.cellsOf el) ((B2.cells.drop off2).take (n * P.cellsOf el)) }, .slice (some ⟨k, off, none⟩) (dLen + n) cap)
      else none
    | _, _ => none
  | _, _, _, _ => none
theorem appendOp_sound {sT xT t : TypeId} {ts : Array TypeId} {d x ud ux : Value} {mem' : Mem} {w : World} (h : appendOp P mem sT xT d x = some (true, mem', v)) (hts : ts = #[sT, xT]) (hd : VR ρ d ud) (hx : VR ρ x ux) (hM : MRel ρ mem w) :
    ∃ w' u, (Builtin.append_ ts t #[ud, ux]).run P w = .ok u w' ∧ VR ρ v u ∧ MRel ρ mem' w' ∧ Mv ρ mem w ρ mem' w' := by
  unfold appendOp at h
  split at h
  · rename_i el xe k off dLen cap k2 off2 n xc ht hxt
    obtain ⟨b, s, hρ, rfl⟩ := VR_slice.1 hd
    obtain ⟨b2, s2, hρ2, rfl⟩ := VR_slice.1 hx
    split at h
    · rename_i B B2 hB hB2
      split at h
      · rename_i hc
        simp only [Bool.and_eq_true] at hc
        simp only [Option.some.injEq, Prod.mk.injEq, Bool.and_eq_true, decide_eq_true_eq] at h
        obtain ⟨⟨⟨h0, h1⟩, h2⟩, rfl, rfl⟩ := h
        obtain ⟨i, hi⟩ := Option.isSome_iff_exists.1 hc.2
        obtain ⟨us, hpw, hl, hcell⟩ := hM.row hρ2 hB2 h1
        have hlen : off + dLen * P.cellsOf el + ((B2.cells.drop off2).take (n * P.cellsOf el)).length ≤ B.cells.length := by rw [hpw.1, hl]; exact h2
        have hload := run_loadCells_list (P := P) w ⟨b2, s2 + off2, none⟩ us (fun j v hv => by rw [Addr.add_lit]; exact hcell j v hv)
        rw [hl] at hload
        have hst := store_row (P := P) hM hρ hB hc.1 hlen hpw
        rw [← Nat.add_assoc] at hst
        have hset := hM.setCells hρ hB hc.1 hlen hpw
        rw [← Nat.add_assoc] at hset
        refine ⟨_, _, ?_, VR_slice.2 ⟨b, s, hρ, rfl⟩, hset, Mv.setCells hρ hB hc.1 _ _ _⟩
        subst hts
        simp [Builtin.append_, run_underlying ht, run_underlying hxt, Builtin.lenOf, Builtin.firstCells, run_sizeOf w hi, h0, hload, Addr.add_lit, hst]
      · cases h
    · cases h
  · cases h

/-! ### Bytes as a string -/
def isByte : Value → Bool
  | .int .u8 _ => true
  | _ => false
def intOf : Value → Int
  | .int _ n => n
  | _ => 0
/-- The string of these bytes. -/
def strOf (ns : List Int) : ByteArray := ns.foldl (fun r n => r.push (UInt8.ofNat n.toNat)) ByteArray.empty
theorem bytes_back : ∀ {l : List Value}, l.all isByte = true → l = (l.map intOf).map (Value.int .u8)
  | [], _ => rfl
  | v :: l, h => by
    simp only [List.all_cons, Bool.and_eq_true] at h
    rw [List.map_cons, List.map_cons, ← bytes_back h.2]
    unfold isByte at h
    split at h
    · rfl
    · exact absurd h.1 (by simp)
theorem bytes_flat {l : List Value} (h : l.all isByte = true) : l.all flat1 = true := by
  rw [List.all_eq_true] at *
  intro v hv
  have := h v hv
  unfold isByte at this
  split at this
  · rfl
  · cases this
def textOp (P : Program) (mem : Mem) (src dst : TypeId) (x : Value) : Option (Bool × Value) :=
  match P.underlying src, P.underlying dst, x with
  | some (.slice el), some .string, .slice (some ⟨k, off, none⟩) n _ =>
    match P.underlying el, mem[k]? with
    | some (.int .u8), some B => some (decide (off + n ≤ B.cells.length) && ((B.cells.drop off).take n).all isByte, .string (strOf (((B.cells.drop off).take n).map intOf)))
    | _, _ => none
  | _, _, _ => none
theorem textOp_sound {M : Mem} {src dst : TypeId} {x u : Value} {w : World} (h : textOp P mem src dst x = some (true, v)) (hMm : ∀ (k : Nat) (B : Blk), mem[k]? = some B → M[k]? = some B) (hx : VR ρ x u) (hM : MRel ρ M w) :
    ∃ r, VR ρ v r ∧ (convert src dst u).run P w = .ok r w := by
  unfold textOp at h
  split at h
  · rename_i el k off n cap hs hd
    obtain ⟨b, s, hρ, rfl⟩ := VR_slice.1 hx
    split at h
    · rename_i B he hB
      simp only [Option.some.injEq, Prod.mk.injEq, Bool.and_eq_true, decide_eq_true_eq] at h
      obtain ⟨⟨h0, h1⟩, rfl⟩ := h
      obtain ⟨us, hpw, hl, hcell⟩ := hM.row hρ (hMm _ _ hB) h0
      rw [PW_flat (fun _ _ => VR1_flat) (bytes_flat h1)] at hpw
      have hload := run_loadCells_list (P := P) w ⟨b, s + off, none⟩ us (fun j v hv => by rw [Addr.add_lit]; exact hcell j v hv)
      rw [hl] at hload
      rw [hpw, bytes_back h1] at hload
      refine ⟨_, (VR_flat rfl).2 rfl, ?_⟩
      rw [run_convert_bytes_string w src dst el _ n cap hs he hd, run_bytesToString w _ n cap _ hload]
      rfl
    · cases h
  · cases h

/-! ### Calls -/
/-- The function that a call goes to, and its arguments. -/
def calleeOf (E : Operand → Option Value) (c : Call) : Option (FuncId × List Value) :=
  match c.callee with
  | .value f => match E f, c.args.toList.mapM E with
    | some (.func (.func g) first captured), some vs => if first.toList.all flat && captured.toList.all flat then some (g, first.toList ++ vs ++ captured.toList) else none
    | _, _ => none
  | _ => none

/-- A call that answers v and touches nothing that was there. -/
def QC (P : Program) (g : FuncId) (args : List Value) (v : Value) : Prop :=
  (∀ w, (callFunc g args.toArray).run P w = .ok (.value v) w) ∨ ((∀ w, (callFunc g args.toArray).run P w = .ok (.enter g args.toArray) w) ∧ PC P g args v)

/-- A call that answers v and leaves the memory mem'. -/
def MC (P : Program) (g : FuncId) (args : List Value) (mem : Mem) (v : Value) (mem' : Mem) : Prop :=
  (∀ us w, (callFunc g us).run P w = .ok (.enter g us) w) ∧ CT P g args mem fun v' m' => v' = v ∧ m' = mem'

inductive Ans where
  | auto
  | tst (b : Bool)
  | res (v : Value)
  | mem (v : Value) (m : Mem)
  | add (v : Value) (l : Mem)
  | at (n : Nat) (v : Value)
  | is (n : Nat) (v : Value)
  | cut (live : List Nat) (e : Exit) (S : St)

inductive Eff where
  | pure
  | read
  | new (B : Blk)
  | write (m : Mem)
  | adds (l : Mem)

structure Out where
  ok : Bool
  obs : List Prop
  v : Value
  eff : Eff

def callOp (P : Program) (mem : Mem) (E : Operand → Option Value) (c : Call) (ans : List Ans) : Option (Out × List Ans) :=
  match calleeOf E c, ans with
  | some (g, args), .res v :: ans => if args.all flat && flat v then some (⟨true, [QC P g args v], v, .pure⟩, ans) else none
  | some (g, args), .mem v m :: ans => some (⟨true, [MC P g args mem v m], v, .write m⟩, ans)
  | some (g, args), .add v l :: ans => some (⟨true, [MC P g args mem v (mem ++ l)], v, .adds l⟩, ans)
  | _, _ => none

def pureOut (r : Option (Bool × Value)) (f : Eff) (ans : List Ans) : Option (Out × List Ans) :=
  match r with
  | some (c, v) => some (⟨c, [], v, f⟩, ans)
  | none => none

def evOp (P : Program) (mem : Mem) (E : Operand → Option Value) (o : Oper) (ans : List Ans) : Option (Out × List Ans) :=
  match o.op with
  | .load t x => match E x with | some vx => pureOut (loadOp P mem t vx) .read ans | none => none
  | .store t x y => match E x, E y with
    | some vx, some vy => match storeOp P mem t vx vy with
      | some (c, m) => some (⟨c, [], undef, .write m⟩, ans)
      | none => none
    | _, _ => none
  | .alloc .. | .box .. | .makeSlice .. | .buildSlice .. => match newOp P E mem.length o with
    | some (c, B, v) => some (⟨c, [], v, .new B⟩, ans)
    | none => none
  | .call c => match c.callee with
    | .value _ => callOp P mem E c ans
    | .builtin .copy => match c.args.toList, c.argTypes.toList with
      | [d, x], dT :: _ => match E d, E x with
        | some vd, some vx => match copyOp P mem dT vd vx with
          | some (ok, m, v) => some (⟨ok, [], v, .write m⟩, ans)
          | none => none
        | _, _ => none
      | _, _ => none
    | .builtin .append => match c.args.toList, c.argTypes.toList with
      | [d, x], [sT, xT] => match E d, E x with
        | some vd, some vx => match appendOp P mem sT xT vd vx with
          | some (ok, m, v) => some (⟨ok, [], v, .write m⟩, ans)
          | none => none
        | _, _ => none
      | _, _ => none
    | _ => pureOut (opPure P E o) .pure ans
  | .convert src dst x =>
    match P.underlying src with
    | some (.slice _) => match E x with | some vx => pureOut (textOp P mem src dst vx) .read ans | none => none
    | _ => pureOut (opPure P E o) .pure ans
  | _ => pureOut (opPure P E o) .pure ans

/-- What an operation's outcome says of the machine. -/
def OutR (P : Program) (mem : Mem) (E : Operand → Option Value) (o : Oper) (r : Out) : Prop :=
  match r.eff with
  | .pure => NonW P o E r.v [] none
  | .read => NonW P o E r.v mem none
  | .new B => NonW P o E r.v (mem ++ [B]) (some mem.length)
  | .write m => Wr P o E r.v mem m
  | .adds l => Wr P o E r.v mem (mem ++ l)

theorem mapM_rel : ∀ (xs : List Operand) (vs : List Value), xs.mapM E = some vs → (∀ x ∈ xs, ∀ u, E x = some u → VR ρ u (e x)) → PW (VR ρ) vs (xs.map e)
  | [], vs, h, _ => by simp at h; subst h; exact PW.nil
  | x :: xs, vs, h, hH => by
    rw [List.mapM_cons] at h
    simp only [bind, Option.bind_eq_some_iff, pure, Option.some.injEq] at h
    obtain ⟨v, hv, vs', hvs, rfl⟩ := h
    exact PW.cons (hH x (by simp) v hv) (mapM_rel xs vs' hvs fun y hy => hH y (by simp [hy]))

theorem closed_self {l : List Value} (h : l.all flat = true) : PW (VR ρ) l l := (PW_VR_flat h).2 rfl

theorem callee_run {c : Call} {g : FuncId} {args : List Value} (ho : o.op = .call c) (h : calleeOf E c = some (g, args))
    (hH : ∀ x ∈ o.op.operands, ∀ u, E x = some u → VR ρ u (e x)) : ∃ us : List Value, PW (VR ρ) args us ∧ execOp e o = callFunc g us.toArray := by
  unfold calleeOf at h
  obtain ⟨callee, cargs, cts⟩ := c
  simp only at h
  split at h
  · rename_i f
    split at h
    · rename_i g' first captured vs hf hvs
      split at h
      case isFalse => cases h
      rename_i hfl
      simp only [Option.some.injEq, Prod.mk.injEq] at h
      obtain ⟨rfl, rfl⟩ := h
      obtain ⟨h1, h2⟩ := Bool.and_eq_true_iff.1 hfl
      have hef : e f = .func (.func g') first captured := by
        have := hH f (by simp [ho, Op.operands, Call.operands]) _ hf
        exact (VR_flat rfl).1 this
      have hm := mapM_rel (ρ := ρ) (e := e) _ _ hvs (fun x hx => hH x (by simp [ho, Op.operands, Call.operands]; right; simpa using hx))
      refine ⟨first.toList ++ cargs.toList.map e ++ captured.toList, ((closed_self h1).append hm).append (closed_self h2), ?_⟩
      have he : execOp e o = (resolve e { callee := .value f, args := cargs, argTypes := cts } o.type >>= fun d => invoke d.target d.args) := by simp only [execOp, ho]
      rw [he]
      simp only [resolve, hef, Deferred.ofValue, pure_bind, invoke]
      congr 1
      apply Array.toList_inj.1
      simp
    · cases h
  · cases h

theorem evOp_sound {ans ans' : List Ans} {r : Out} (h : evOp P mem E o ans = some (r, ans')) (hok : r.ok = true) (hobs : ∀ p ∈ r.obs, p) : OutR P mem E o r := by
  have hpure : ∀ (q : Option (Bool × Value)) (f : Eff), pureOut q f ans = some (r, ans') → ∃ v, q = some (true, v) ∧ r.v = v ∧ r.eff = f := by
    intro q f hq
    unfold pureOut at hq
    split at hq
    · cases hq; simp only at hok; subst hok; exact ⟨_, rfl, rfl, rfl⟩
    · cases hq
  have hpp : ∀ (hq : pureOut (opPure P E o) .pure ans = some (r, ans')), OutR P mem E o r := by
    intro hq
    obtain ⟨v, h1, h2, h3⟩ := hpure _ _ hq
    unfold OutR
    rw [h3, h2]
    exact NonW.of_pure fun ρ e hH => opPure_sound h1 ρ e hH
  unfold evOp at h
  split at h
  · rename_i t x ho
    split at h
    · rename_i vx hx
      obtain ⟨v, h1, h2, h3⟩ := hpure _ _ h
      unfold OutR
      rw [h3, h2]
      refine NonW.of_read fun ρ e w M hMm hH hM => ?_
      obtain ⟨u, hu, hr⟩ := loadOp_sound h1 hMm (hH x (by simp [ho, Op.operands]) _ hx) hM
      exact ⟨u, hu, by simp [execOp, ho, hr]⟩
    · cases h
  · rename_i t x y ho
    split at h
    · rename_i vx vy hx hy
      split at h
      · rename_i c m hs
        cases h
        simp only at hok
        subst hok
        intro ρ a w hH hM next Q hn
        obtain ⟨w', hr, hM', hmv⟩ := storeOp_sound hs (hH x (by simp [ho, Op.operands]) _ hx) (hH y (by simp [ho, Op.operands]) _ hy) hM
        unfold Oper.wp
        have : (execOp a.eval o).run P w = .ok .skip w' := by simp [execOp, ho, hr]
        rw [this]
        exact hn undef w' ρ VR_undef hM' hmv
      · cases h
    · cases h
  · split at h
    · rename_i c B v hn
      cases h
      simp only at hok
      subst hok
      exact newOp_sound hn
    · cases h
  · split at h
    · rename_i c B v hn
      cases h
      simp only at hok
      subst hok
      exact newOp_sound hn
    · cases h
  · split at h
    · rename_i c B v hn
      cases h
      simp only at hok
      subst hok
      exact newOp_sound hn
    · cases h
  · split at h
    · rename_i c B v hn
      cases h
      simp only at hok
      subst hok
      exact newOp_sound hn
    · cases h
  · rename_i c ho
    split at h
    · rename_i f hcf
      unfold callOp at h
      split at h
      · rename_i g args v ans1 hc
        split at h
        · rename_i hf
          simp only [Bool.and_eq_true] at hf
          cases h
          have hq := hobs _ (List.mem_singleton.2 rfl)
          have hrun : ∀ (ρ : Ren) (e : Operand → Value), (∀ x ∈ o.op.operands, ∀ u, E x = some u → VR ρ u (e x)) → execOp e o = callFunc g args.toArray := fun ρ e hH => by
            obtain ⟨us, hus, he⟩ := callee_run ho hc hH
            rw [(PW_VR_flat hf.1).1 hus] at he
            exact he
          rcases hq with hq | ⟨hq, hpc⟩
          · exact NonW.of_pure fun ρ e hH => ⟨v, (VR_flat hf.2).2 rfl, fun w => by rw [hrun ρ e hH]; exact hq w⟩
          · exact NonW.of_quiet hf.2 hpc fun ρ e hH w => by rw [hrun ρ e hH]; exact hq w
        · cases h
      · rename_i g args v m ans1 hc
        cases h
        obtain ⟨henter, hct⟩ := hobs _ (List.mem_singleton.2 rfl)
        intro ρ a w hH hM next Q hn
        obtain ⟨us, hus, he⟩ := callee_run ho hc hH
        unfold Oper.wp
        rw [he, henter, Oper.upon_enter]
        refine (hct ρ w us hus hM).mono ?_
        rintro e w' ⟨v', mem', ρ', u, rfl, ⟨rfl, rfl⟩, hu, hM', hmv⟩
        exact hn u w' ρ' hu hM' hmv
      · rename_i g args v m ans1 hc
        cases h
        obtain ⟨henter, hct⟩ := hobs _ (List.mem_singleton.2 rfl)
        intro ρ a w hH hM next Q hn
        obtain ⟨us, hus, he⟩ := callee_run ho hc hH
        unfold Oper.wp
        rw [he, henter, Oper.upon_enter]
        refine (hct ρ w us hus hM).mono ?_
        rintro e w' ⟨v', mem', ρ', u, rfl, ⟨rfl, rfl⟩, hu, hM', hmv⟩
        exact hn u w' ρ' hu hM' hmv
      · cases h
    · rename_i hcb
      split at h
      · rename_i d x dT ts ha hts
        split at h
        · rename_i vd vx hd hx
          split at h
          · rename_i okk m v hcp
            cases h
            simp only at hok
            subst hok
            intro ρ a w hH hM next Q hn
            obtain ⟨callee, cargs, cts⟩ := c
            simp only at hcb ha hts
            obtain rfl : cargs = #[d, x] := Array.toList_inj.1 ha
            obtain ⟨w', hr, hv, hM', hmv⟩ := copyOp_sound (t := o.type) (ts := cts) hcp (by rw [← Array.getElem?_toList, hts]; rfl) (hH d (by simp [ho, Op.operands, Call.operands]) _ hd) (hH x (by simp [ho, Op.operands, Call.operands]) _ hx) hM
            unfold Oper.wp
            have : (execOp a.eval o).run P w = .ok (.value v) w' := by subst hcb; simp [execOp, ho, resolve, invoke, builtin, hr]
            rw [this]
            exact hn v w' ρ ((VR_flat hv).2 rfl) hM' hmv
          · cases h
        · cases h
      · cases h
    · rename_i hcb
      split at h
      · rename_i d x sT xT ha hts
        split at h
        · rename_i vd vx hd hx
          split at h
          · rename_i okk m v hcp
            cases h
            simp only at hok
            subst hok
            intro ρ a w hH hM next Q hn
            obtain ⟨callee, cargs, cts⟩ := c
            simp only at hcb ha hts
            obtain rfl : cargs = #[d, x] := Array.toList_inj.1 ha
            obtain rfl : cts = #[sT, xT] := Array.toList_inj.1 hts
            obtain ⟨w', u, hr, hv, hM', hmv⟩ := appendOp_sound (t := o.type) hcp rfl (hH d (by simp [ho, Op.operands, Call.operands]) _ hd) (hH x (by simp [ho, Op.operands, Call.operands]) _ hx) hM
            unfold Oper.wp
            have : (execOp a.eval o).run P w = .ok (.value u) w' := by subst hcb; simp [execOp, ho, resolve, invoke, builtin, hr]
            rw [this]
            exact hn u w' ρ hv hM' hmv
          · cases h
        · cases h
      · cases h
    · exact hpp h
  · rename_i src dst x ho
    split at h
    · split at h
      · rename_i vx hx
        obtain ⟨v, h1, h2, h3⟩ := hpure _ _ h
        unfold OutR
        rw [h3, h2]
        refine NonW.of_read fun ρ e w M hMm hH hM => ?_
        obtain ⟨u, hu, hr⟩ := textOp_sound h1 hMm (hH x (by simp [ho, Op.operands]) _ hx) hM
        exact ⟨u, hu, by simp [execOp, ho, hr]⟩
      · cases h
    · exact hpp h
  · exact hpp h
end
end Go.Ev
