/-
  Relative states: appends that grow (the new capacity is drawn).
-/
import Derived.Test.YtljolfnpncjklaaGreatEv3
import Derived.Laws.Append
import Derived.Laws.AppendOwn
/-! Relative states: appends that grow. -/
namespace Go.Ev
section
variable {P : Program} {ρ : Ren}

theorem Step2.exec {ops : Array Oper} {i k : Nat} {o : Oper} {S S' : St} (ho : ops[i]? = some o) (h : Step2 P ops o S S' k) {a : Act} {w : World} (hr : ARel ρ S a w)
    {K : Act → World → Prop} {Q : Exit → Act → World → Prop} (hK : ∀ a' w' ρ', ARel ρ' S' a' w' → Mv ρ S.mem w ρ' S'.mem w' → K a' w') : wpOp P ops Q i K a w := by
  obtain ⟨hg, hs⟩ := h
  have key : ∃ k', StepR (fun M => M = S.mem) P ops o S S' k' := by
    rcases hs with ⟨hw, ht, hm, hc⟩ | ⟨hw, v, ht, hs⟩
    · exact ⟨0, hg, .inl ⟨hw, ht, hm, rfl⟩⟩
    · rcases hs with ⟨hc, hm, hn⟩ | ⟨hc, hm, hn⟩ | ⟨hc, B, hm, hn⟩ | ⟨hc, hn⟩ | ⟨k, hc, hm, hn⟩ | ⟨k, hc, hn, _⟩
      · exact ⟨0, hg, .inr ⟨hw, v, ht, .inl ⟨rfl, hm, fun M _ N hN => hn N (by simp)⟩⟩⟩
      · exact ⟨1, hg, .inr ⟨hw, v, ht, .inr (.inl ⟨rfl, hm, hn⟩)⟩⟩
      · exact ⟨1, hg, .inr ⟨hw, v, ht, .inr (.inr (.inl ⟨rfl, B, hm, hn _ (by rw [hm, List.getElem?_append_right (Nat.le_refl _), Nat.sub_self]; rfl)⟩))⟩⟩
      · exact ⟨2, hg, .inr ⟨hw, v, ht, .inr (.inr (.inr ⟨rfl, hn⟩))⟩⟩
      · exact ⟨1, hg, .inr ⟨hw, v, ht, .inr (.inl ⟨rfl, hm, hn _ rfl⟩)⟩⟩
      · exact ⟨2, hg, .inr ⟨hw, v, ht, .inr (.inr (.inr ⟨rfl, hn⟩))⟩⟩
  obtain ⟨k', hst⟩ := key
  exact hst.exec ho rfl hr hK
theorem wpOps_steps {ops : Array Oper} {T : Nat → St} {ks : Nat → Nat} {rest : List Nat} {Q : Exit → Act → World → Prop} : ∀ (m i j : Nat), (∀ n, n < m → ∃ o, ops[i + n]? = some o ∧ Step2 P ops o (T (j + n)) (T (j + n + 1)) (ks (j + n))) → ∀ (ρ : Ren) (a : Act) (w : World), ARel ρ (T j) a w →
    (∀ a' w' ρ', ARel ρ' (T (j + m)) a' w' → Mv ρ (T j).mem w ρ' (T (j + m)).mem w' → wpOps P ops Q rest a' w') → wpOps P ops Q (List.range' i m ++ rest) a w
  | 0, i, j, _, ρ, a, w, hr, hQ => hQ a w ρ hr (.refl _ _ _)
  | m + 1, i, j, h, ρ, a, w, hr, hQ => by
    obtain ⟨o, ho, hst⟩ := h 0 (by omega)
    rw [List.range'_succ, List.cons_append, wpOps_cons]
    refine hst.exec ho hr fun a1 w1 ρ1 hr1 hm1 => ?_
    refine wpOps_steps (ks := ks) m (i + 1) (j + 1) (fun n hn => ?_) ρ1 a1 w1 hr1 fun a2 w2 ρ2 hr2 hm2 => ?_
    · obtain ⟨o', ho', hs'⟩ := h (n + 1) (by omega)
      exact ⟨o', by rw [show i + 1 + n = i + (n + 1) by omega]; exact ho', by rw [show j + 1 + n = j + (n + 1) by omega]; exact hs'⟩
    · rw [show j + 1 + m = j + (m + 1) by omega] at hr2 hm2
      exact hQ a2 w2 ρ2 hr2 (hm1.trans hr.mem hm2)
theorem wpOps_ev {ops : Array Oper} {gs : List Nat} {os : List Oper} {i : Nat} {S S' : St} {ans ans' : List Ans} {c : List Bool} {p : List Prop} {ks : List Nat} (h : evOps P ops gs i os S ans = some (c, p, S', ans', ks)) (hc : allB c = true) (hp : ∀ q ∈ p, q)
    (hidx : ∀ (j : Nat) o, os[j]? = some o → ops[i + j]? = some o) {rest : List Nat} {Q : Exit → Act → World → Prop} {a : Act} {w : World} (hr : ARel ρ S a w) (hQ : ∀ a' w' ρ', ARel ρ' S' a' w' → Mv ρ S.mem w ρ' S'.mem w' → wpOps P ops Q rest a' w') :
    wpOps P ops Q (List.range' i os.length ++ rest) a w := by
  obtain ⟨T, h0, h1, h2⟩ := evOps_trace _ _ _ _ _ _ _ _ _ h hc hp
  rw [← h0] at hr hQ
  rw [← h1] at hQ
  refine wpOps_steps (T := T) (ks := fun j => ks.getD j 0) os.length i 0 (fun n hn => ?_) ρ a w hr (by simpa using hQ)
  have ho : os[n]? = some os[n] := List.getElem?_eq_getElem hn
  exact ⟨os[n], hidx n _ ho, by simpa using h2 n _ ho⟩

/-- An append that finds no room: is it one, what is needed, the block that is made with capacity c, the slice over it. -/
def growOp (P : Program) (mem : Mem) (sT xT : TypeId) (d x : Value) (c : Nat) : Option (Bool × Nat × Blk × Value) :=
  match P.underlying sT, d, x with
  | some (.slice el), .slice none 0 0, .iface N (.chan (some m)) =>
    match P.info? el with
    | some i => match i.zero with
      | some z => if (sT = xT && i.size = 1) && flat1 z then
          some (Nat.ble 1 m && Nat.ble m 140737488355328 && Nat.ble (m * i.bytes) 140737488355328, m, ⟨(List.range m).map (word32 N) ++ List.replicate (c - m) z, el, true⟩, .slice (some ⟨mem.length, 0, none⟩) m c) else none
      | none => none
    | none => none
  | some (.slice el), .slice (some ⟨k, off, none⟩) l cap, .iface N (.chan (some m)) =>
    match P.info? el, mem[k]? with
    | some i, some B => match i.zero with
      | some z => if (sT = xT && i.size = 1) && flat1 z then
          some (Nat.ble 1 m && Nat.ble (cap + 1) (l + m) && Nat.ble (off + l) B.cells.length && Nat.ble (l + m) 140737488355328 && Nat.ble ((l + m) * i.bytes) 140737488355328, l + m, ⟨(B.cells.drop off).take l ++ (List.range m).map (word32 N) ++ List.replicate (c - (l + m)) z, el, true⟩, .slice (some ⟨mem.length, 0, none⟩) (l + m) c) else none
      | none => none
    | _, _ => none
  | _, _, _ => none
theorem zeroCells_one {z : Value} (hz : flat1 z = true) (n : Nat) : Builtin.zeroCells z.cells n = (List.replicate n z).toArray := by
  apply Array.ext
  · simp [Builtin.zeroCells, (flat1_cells hz).1]
  · intro i h1 h2
    simp [Builtin.zeroCells, (flat1_cells hz).1, Nat.mod_one]
theorem growOp_sound {mem : Mem} {sT xT ty : TypeId} {d x ud ux : Value} {w : World} (hd : VR ρ d ud) (hx : VR ρ x ux) (hM : MRel ρ mem w) {need : Nat} (h : ∀ c, need ≤ c → ∃ B v, growOp P mem sT xT d x c = some (true, need, B, v)) :
    ∃ c, need ≤ c ∧ ∀ B v, growOp P mem sT xT d x c = some (true, need, B, v) → ∃ u cs, (Builtin.append_ #[sT, xT] ty #[ud, ux]).run P w = .ok u (w.drew.alloc (.cells cs.toArray B.elem)) ∧ PW (VR1 ρ) B.cells cs ∧
      ∀ ρ' : Ren, ρ' mem.length = some (w.heap.size, 0) → VR ρ' v u := by
  obtain ⟨B0, v0, h0⟩ := h need (Nat.le_refl _)
  have htok : ∀ N m, 1 ≤ m → VR ρ (.iface N (.chan (some m))) ux → ∃ a c, ux = .slice (some a) m c ∧ ∀ j v, ((List.range m).map (word32 N))[j]? = some v → w.cell? (a.add j) = some v := by
    intro N m hm hx
    obtain ⟨a, c, rfl, hlc, hor⟩ := VR_sliceTok.1 hx
    rcases hor with hz | ⟨b, off, cs, rfl, hb, hcs⟩
    · omega
    · refine ⟨_, c, rfl, fun j v hv => ?_⟩
      rw [List.getElem?_map] at hv
      by_cases hj : j < m
      · rw [List.getElem?_range hj] at hv
        cases hv
        rw [Addr.add_lit]
        exact (hM.froz b cs hb).2.1 _ _ (hcs j hj)
      · rw [List.getElem?_eq_none (by simpa using hj)] at hv
        cases hv
  have hfl : ∀ (N m : Nat), PW (VR1 ρ) ((List.range m).map (word32 N)) ((List.range m).map (word32 N)) := fun N m => (PW_flat (fun _ _ => VR1_flat) (by
    rw [List.all_map, List.all_eq_true]
    intro i _
    rfl)).2 rfl
  unfold growOp at h0
  split at h0
  · rename_i el N m ht
    split at h0
    · rename_i i hi
      split at h0
      · rename_i z hz
        split at h0
        · rename_i hc
          simp only [Option.some.injEq, Prod.mk.injEq, Bool.and_eq_true, Nat.ble_eq] at h0
          simp only [Bool.and_eq_true, decide_eq_true_eq] at hc
          obtain ⟨⟨⟨h1, h2⟩, h3⟩, rfl, _, _⟩ := h0
          obtain ⟨⟨rfl, hs⟩, hf⟩ := hc
          have ed := (VR_flat rfl).1 hd
          subst ed
          obtain ⟨a, cc, rfl, hcell⟩ := htok N m h1 hx
          refine ⟨grownCap w m 0 el, grownCap_ge w m 0 el, fun B v hB => ?_⟩
          unfold growOp at hB
          simp only [ht, hi, hz, hs, hf, decide_true, Bool.and_self, if_true, Option.some.injEq, Prod.mk.injEq] at hB
          obtain ⟨_, _, rfl, rfl⟩ := hB
          have hrun := run_append_nil (P := P) w sT ty el i z ht hi hz a m cc ((List.range m).map (word32 N)) (by rw [hs]; simp) hcell h1 (by omega) (by omega)
          rw [zeroCells_one hf] at hrun
          refine ⟨.slice (some ⟨w.heap.size, 0, none⟩) m (grownCap w m 0 el), (List.range m).map (word32 N) ++ List.replicate (grownCap w m 0 el - m) z, by rw [hrun]; congr 2; simp, (hfl N m).append (PW.replicate _ ((VR1_flat hf).2 rfl)), fun ρ' hk => VR_slice.2 ⟨_, _, hk, rfl⟩⟩
        · cases h0
      · cases h0
    · cases h0
  · rename_i el k off l cap N m ht
    split at h0
    · rename_i i B1 hi hB1
      split at h0
      · rename_i z hz
        split at h0
        · rename_i hc
          simp only [Option.some.injEq, Prod.mk.injEq, Bool.and_eq_true, Nat.ble_eq] at h0
          simp only [Bool.and_eq_true, decide_eq_true_eq] at hc
          obtain ⟨⟨⟨⟨⟨h1, h2⟩, h3⟩, h4⟩, h5⟩, rfl, _, _⟩ := h0
          obtain ⟨⟨rfl, hs⟩, hf⟩ := hc
          obtain ⟨b, s, hρ, rfl⟩ := VR_slice.1 hd
          obtain ⟨a, cc, rfl, hcell⟩ := htok N m h1 hx
          obtain ⟨us, hpw, hl, hus⟩ := hM.row hρ hB1 h3
          refine ⟨grownCap w (l + m) cap el, grownCap_ge w (l + m) cap el, fun B v hB => ?_⟩
          unfold growOp at hB
          simp only [ht, hi, hz, hB1, hs, hf, decide_true, Bool.and_self, if_true, Option.some.injEq, Prod.mk.injEq] at hB
          obtain ⟨_, _, rfl, rfl⟩ := hB
          have hrun := run_append_grow (P := P) w sT ty el i z ht hi hz ⟨b, s + off, none⟩ l cap us (by rw [hs, hl]; simp) (fun j v hv => by rw [Addr.add_lit]; exact hus j v hv) a m cc ((List.range m).map (word32 N)) (by rw [hs]; simp) hcell (by omega) (by omega) (growslice_fits (by omega) h5)
          rw [zeroCells_one hf] at hrun
          refine ⟨.slice (some ⟨w.heap.size, 0, none⟩) (l + m) (grownCap w (l + m) cap el), us ++ (List.range m).map (word32 N) ++ List.replicate (grownCap w (l + m) cap el - (l + m)) z, by rw [hrun]; congr 2; simp, (hpw.append (hfl N m)).append (PW.replicate _ ((VR1_flat hf).2 rfl)), fun ρ' hk => VR_slice.2 ⟨_, _, hk, rfl⟩⟩
        · cases h0
      · cases h0
    · cases h0
  · cases h0

theorem growOp_own {mem : Mem} {sT xT : TypeId} {d x v : Value} {c need : Nat} {t : Bool} {B : Blk} (h : growOp P mem sT xT d x c = some (t, need, B, v)) : B.own = true := by
  unfold growOp at h
  split at h
  · split at h
    · split at h
      · split at h
        · cases h; rfl
        · cases h
      · cases h
    · cases h
  · split at h
    · split at h
      · split at h
        · cases h; rfl
        · cases h
      · cases h
    · cases h
  · cases h
/-- A region whose operation p is an append that grows: with the capacity c. -/
def evGR (P : Program) (ops : Array Oper) (p c : Nat) (S : St) (ans1 ans2 : List Ans) : Option (Bool × Prop × Nat × St) :=
  match evOps P ops (guardsOf ops.toList) 0 (ops.toList.take p) S ans1 with
  | some (b1, q1, S1, [], _) => match ops.toList.drop p with
    | o :: os => match o.op, o.guard with
      | .call ⟨.builtin .append, args, ts⟩, none => match args.toList, ts.toList with
        | [d, x], [sT, xT] => match S1.eval d, S1.eval x with
          | some vd, some vx => match growOp P S1.mem sT xT vd vx c with
            | some (t, need, B, v) => match evOps P ops (guardsOf ops.toList) (p + 1) os ⟨putL S1.tmps o.dst v, S1.mem ++ [B]⟩ ans2 with
              | some (b2, q2, S2, [], _) => some (allB (b1 ++ t :: b2), allP (q1 ++ q2), need, S2)
              | _ => none
            | none => none
          | _, _ => none
        | _, _ => none
      | _, _ => none
    | [] => none
  | _ => none
theorem Tri.of_evGR {id : Nat} {ops : Array Oper} {p need : Nat} {S : St} {ans1 ans2 : List Ans} {S2 : Nat → St} (hp : p < ops.size) (h : ∀ c, need ≤ c → ∃ X A, X = true ∧ A ∧ evGR P ops p c S ans1 ans2 = some (X, A, need, S2 c)) :
    Tri P (.region id ops false) S (fun e S' => e = .normal ∧ ∃ c, need ≤ c ∧ S' = S2 c) := by
  obtain ⟨X0, A0, hX0, hA0, h0⟩ := h need (Nat.le_refl _)
  unfold evGR at h0
  split at h0
  · rename_i b1 q1 S1 ks1 hev1
    split at h0
    · rename_i o os hdrop
      split at h0
      · rename_i args ts hop hguard
        split at h0
        · rename_i d x sT xT hargs hts
          split at h0
          · rename_i vd vx hvd hvx
            obtain rfl : args = #[d, x] := Array.toList_inj.1 hargs
            obtain rfl : ts = #[sT, xT] := Array.toList_inj.1 hts
            -- the same for every capacity
            have hall : ∀ c, need ≤ c → ∃ B v b2 q2 ks2, growOp P S1.mem sT xT vd vx c = some (true, need, B, v) ∧ allB b1 = true ∧ (∀ q ∈ q1, q) ∧ allB b2 = true ∧ (∀ q ∈ q2, q) ∧
                evOps P ops (guardsOf ops.toList) (p + 1) os ⟨putL S1.tmps o.dst v, S1.mem ++ [B]⟩ ans2 = some (b2, q2, S2 c, [], ks2) := by
              intro c hc
              obtain ⟨X, A, hX, hA, he⟩ := h c hc
              unfold evGR at he
              rw [hev1] at he
              simp only [hdrop, hop, hguard, hvd, hvx] at he
              split at he
              · rename_i t need' B v hg
                split at he
                · rename_i b2 q2 S2' ks2 hev2
                  cases he
                  rw [allB_append, allB_cons] at hX
                  simp only [Bool.and_eq_true] at hX
                  obtain ⟨hb1, rfl, hb2⟩ := hX
                  exact ⟨B, v, b2, q2, ks2, hg, hb1, fun q hq => allP_iff hA q (List.mem_append_left _ hq), hb2, fun q hq => allP_iff hA q (List.mem_append_right _ hq), hev2⟩
                · cases he
              · cases he
            intro ρ a w hr
            refine wp_region ?_
            have hlen : ops.toList = ops.toList.take p ++ (o :: os) := by rw [← hdrop, List.take_append_drop]
            have hsz : ops.size = (ops.toList.take p).length + (1 + os.length) := by
              have := congrArg List.length hlen
              simp only [List.length_append, List.length_cons] at this
              rw [Array.length_toList] at this
              omega
            have hpl : (ops.toList.take p).length = p := by rw [List.length_take, Array.length_toList]; omega
            rw [List.range_eq_range', hsz, ← List.range'_append_1]
            obtain ⟨_, _, _, _, _, _, hb1, hq1, _, _, _⟩ := hall need (Nat.le_refl _)
            refine wpOps_ev hev1 hb1 hq1 (fun j o' ho' => ?_) hr fun a1 w1 ρ1 hr1 hm1 => ?_
            · rw [Nat.zero_add, ← Array.getElem?_toList]
              rw [hlen, List.getElem?_append_left (List.getElem?_eq_some_iff.1 ho').1]
              exact ho'
            · rw [Nat.zero_add, hpl, show 1 + os.length = os.length + 1 from Nat.add_comm _ _, List.range'_succ, wpOps_cons]
              have hoP : ops[p]? = some o := by
                rw [← Array.getElem?_toList, hlen, List.getElem?_append_right (by omega), hpl, Nat.sub_self]
                rfl
              have hvd' : VR ρ1 vd (a1.eval d) := ARel.eval hr1.tmps hvd
              have hvx' : VR ρ1 vx (a1.eval x) := ARel.eval hr1.tmps hvx
              obtain ⟨c, hc, hrun⟩ := growOp_sound (ty := o.type) hvd' hvx' hr1.mem (fun c hc => by obtain ⟨B, v, _, _, _, hg, _⟩ := hall c hc; exact ⟨B, v, hg⟩)
              obtain ⟨B, v, b2, q2, ks2, hg, _, _, hb2, hq2, hev2⟩ := hall c hc
              obtain ⟨u, cs, hu, hpw, hvu⟩ := hrun B v hg
              unfold wpOp
              rw [hoP]
              simp only
              have hwant : Region.wanted o (yielded ops a1.tmps) = true := by unfold Region.wanted; rw [hguard]
              rw [hwant]
              simp only [if_true]
              refine .inl ?_
              unfold Oper.wp
              have hex : (execOp a1.eval o).run P w1 = .ok (.value u) (w1.drew.alloc (.cells cs.toArray B.elem)) := by simp [execOp, hop, resolve, invoke, builtin, hu]
              rw [hex]
              have hnone : ρ1 S1.mem.length = none := by
                cases hρ : ρ1 S1.mem.length with
                | none => rfl
                | some x =>
                  obtain ⟨b, s⟩ := x
                  obtain ⟨C, hC, _⟩ := hr1.mem.cell _ b s hρ
                  simp at hC
              have hMd : MRel ρ1 S1.mem w1.drew := ⟨hr1.mem.cell, hr1.mem.apart, hr1.mem.froz, hr1.mem.lists.heap (Nat.le_refl _) fun _ _ _ => rfl⟩
              have hpre : ∀ (k : Nat) (C : Blk), S1.mem[k]? = some C → (S1.mem ++ [B])[k]? = some C := append_pre _ _
              have hM2 := (hMd.ext hpre).alloc (k := S1.mem.length) (B := B) (by rw [List.getElem?_append_right (Nat.le_refl _), Nat.sub_self]; rfl) hnone (growOp_own hg) hpw
              have hle := Ren.le_put hnone (w1.heap.size, 0)
              have hmv0 : Mv ρ1 (S1.mem ++ [B]) w1.drew (ρ1.put S1.mem.length (w1.drew.heap.size, 0)) (S1.mem ++ [B]) (w1.drew.alloc (.cells cs.toArray B.elem)) := Mv.alloc hnone _
              have hmv1 : Mv ρ1 S1.mem w1 (ρ1.put S1.mem.length (w1.heap.size, 0)) (S1.mem ++ [B]) (w1.drew.alloc (.cells cs.toArray B.elem)) := by
                have := hmv0.ext_left hMd hpre
                exact ⟨this.sub, this.new, this.kept, this.os, this.tape, this.output, this.size, this.block, this.newh, this.newg⟩
              have hr2 : ARel (ρ1.put S1.mem.length (w1.heap.size, 0)) ⟨putL S1.tmps o.dst v, S1.mem ++ [B]⟩ (a1.put o.dst u) (w1.drew.alloc (.cells cs.toArray B.elem)) :=
                ⟨putL_rel (hr1.tmps.mono fun _ _ => VR.mono hle) _ (hvu _ (by rw [Ren.put_m]; simp)), by cases o.dst <;> exact hr1.defers, hM2⟩
              have hgoal := wpOps_ev (P := P) (ops := ops) (rest := []) (i := p + 1) hev2 hb2 hq2 (fun j o' ho' => by
                rw [← Array.getElem?_toList, hlen, List.getElem?_append_right (by omega), hpl, show p + 1 + j - p = j + 1 by omega, List.getElem?_cons_succ]
                exact ho') hr2 (Q := fun e a' w' => ∃ S' ρ', (e = .normal ∧ ∃ c, need ≤ c ∧ S' = S2 c) ∧ ARel ρ' S' a' w' ∧ Mv ρ S.mem w ρ' S'.mem w')
                (fun a2 w2 ρ2 hr2' hm2 => ⟨S2 c, ρ2, ⟨rfl, c, hc, rfl⟩, hr2', (hm1.trans hr.mem hmv1).trans hr.mem hm2⟩)
              rw [List.append_nil] at hgoal
              exact hgoal
          · cases h0
        · cases h0
      · cases h0
    · cases h0
  · cases h0
end
/-! ### Pieces whose end is one of several states; what is made becomes what nobody writes any more. -/
def headS : Code → Code
  | .seq a _ => a
  | c => c
section
variable {P : Program} {n0 : Nat}
theorem TriB.first {c : Code} {S : St} {Q1 Q : Exit → St → Prop} (hs : hasS 1 c = true) (h : TriB P n0 (headS c) S Q1) (hn : ∀ e S1, Q1 e S1 → e = .normal) (h' : ∀ S1, Q1 .normal S1 → TriB P n0 (dropS 1 c) S1 Q) : TriB P n0 c S Q := by
  cases c with
  | seq x y =>
    intro ρb memb wb hl hM ρ a w hr hm
    refine wp_seq (wp_mono (h ρb memb wb hl hM ρ a w hr hm) ?_)
    rintro e a1 w1 ⟨S2, ρ1, h1, r1, m1⟩
    obtain rfl := hn _ _ h1
    exact h' _ h1 ρb memb wb hl hM ρ1 a1 w1 r1 m1
  | _ => cases hs
theorem TriB.blockE {id : Nat} {c : Code} {S : St} {Q2 : St → Prop} (h : TriB P n0 c S (fun e S' => e = .exit id ∧ Q2 S')) : TriB P n0 (.block id c) S (fun e S' => e = .normal ∧ Q2 S') := by
  intro ρb memb wb hl hM ρ a w hr hm
  refine wp_block (wp_mono (h ρb memb wb hl hM ρ a w hr hm) ?_)
  rintro e a1 w1 ⟨S2, ρ1, ⟨h1, h2⟩, r1, m1⟩
  subst h1
  simp only [Exit.inBlock, if_pos]
  exact ⟨S2, ρ1, ⟨trivial, h2⟩, r1, m1⟩
theorem TriB.blockN {id : Nat} {c : Code} {S : St} {Q2 : St → Prop} (h : TriB P n0 c S (fun e S' => e = .normal ∧ Q2 S')) : TriB P n0 (.block id c) S (fun e S' => e = .normal ∧ Q2 S') := by
  intro ρb memb wb hl hM ρ a w hr hm
  refine wp_block (wp_mono (h ρb memb wb hl hM ρ a w hr hm) ?_)
  rintro e a1 w1 ⟨S2, ρ1, ⟨h1, h2⟩, r1, m1⟩
  subst h1
  exact ⟨S2, ρ1, ⟨rfl, h2⟩, r1, m1⟩
theorem TriLB.againE {c : Code} {S : St} {Q1 Q : Exit → St → Prop} (h : TriB P n0 c S Q1) (hn : ∀ e S1, Q1 e S1 → e = .normal) (h' : ∀ S1, Q1 .normal S1 → TriLB P n0 c S1 Q) : TriLB P n0 c S Q := by
  intro ρb memb wb hl hM ρ a w hr hm b k cs
  obtain ⟨e, a1, w1, ⟨S2, ρ1, h1, r1, m1⟩, harr⟩ := h ρb memb wb hl hM ρ a w hr hm b (.inLoop c :: k) cs
  obtain rfl := hn _ _ h1
  obtain ⟨e2, a2, w2, q2, harr2⟩ := h' _ h1 ρb memb wb hl hM ρ1 a1 w1 r1 m1 b k cs
  exact ⟨e2, a2, w2, q2, .of_steps (Steps.trans harr (.one step_inLoop)) harr2⟩
theorem TriLB.mono {c : Code} {S : St} {Q Q' : Exit → St → Prop} (h : TriLB P n0 c S Q) (hq : ∀ e S, Q e S → Q' e S) : TriLB P n0 c S Q' := by
  intro ρb memb wb hl hM ρ a w hr hm b k cs
  obtain ⟨e, a1, w1, ⟨S2, ρ1, h1, r1, m1⟩, harr⟩ := h ρb memb wb hl hM ρ a w hr hm b k cs
  exact ⟨e, a1, w1, ⟨S2, ρ1, hq _ _ h1, r1, m1⟩, harr⟩
theorem TriLB.of {c : Code} {S : St} {Q : Exit → St → Prop} (h : TriL P c S Q) : TriLB P n0 c S Q := by
  intro ρb memb wb _ hM ρ a w hr hm b k cs
  obtain ⟨e, a1, w1, ⟨S1, ρ1, q, r1, m1⟩, harr⟩ := h ρ a w hr b k cs
  exact ⟨e, a1, w1, ⟨S1, ρ1, q, r1, hm.trans hM m1⟩, harr⟩
/-- A region of the code whose operation p is an append that grows. -/
def regOf : Code → Option (Nat × Array Oper)
  | .region id ops false => some (id, ops)
  | _ => none
def evGC (P : Program) (c : Code) (p cap : Nat) (S : St) (ans1 ans2 : List Ans) : Option (Bool × Prop × Nat × St) :=
  match regOf c with
  | some (_, ops) => match decide (p < ops.size) with
    | true => evGR P ops p cap S ans1 ans2
    | false => none
  | none => none
theorem Tri.of_evGC {c : Code} {p need : Nat} {S : St} {ans1 ans2 : List Ans} {S2 : Nat → St} (h : ∀ k, need ≤ k → ∃ X A, X = true ∧ A ∧ evGC P c p k S ans1 ans2 = some (X, A, need, S2 k)) :
    Tri P c S (fun e S' => e = .normal ∧ ∃ k, need ≤ k ∧ S' = S2 k) := by
  cases hr : regOf c with
  | none =>
    obtain ⟨X, A, _, _, e⟩ := h need (Nat.le_refl _)
    unfold evGC at e
    rw [hr] at e
    cases e
  | some x =>
    obtain ⟨id, ops⟩ := x
    have hc : c = .region id ops false := by
      unfold regOf at hr
      split at hr
      · cases hr; rfl
      · cases hr
    subst hc
    have hp : p < ops.size := by
      obtain ⟨X, A, _, _, e⟩ := h need (Nat.le_refl _)
      unfold evGC at e
      rw [hr] at e
      simp only at e
      split at e
      · rename_i hd
        exact of_decide_eq_true hd
      · cases e
    refine Tri.of_evGR (ans1 := ans1) (ans2 := ans2) hp fun k hk => ?_
    obtain ⟨X, A, hx, ha, e⟩ := h k hk
    refine ⟨X, A, hx, ha, ?_⟩
    unfold evGC at e
    rw [hr] at e
    simp only at e
    rw [decide_eq_true hp] at e
    exact e
/-- All that was made since the function's beginning is written no more. -/
theorem TriB.freeze {c : Code} {S S1 S2 : St} {e : Exit} (h : TriB P 0 c S (to e S1)) (hz : PW (fun x v => Frz S1.mem x v ∨ v = wild) S1.tmps S2.tmps) (hm2 : S2.mem = []) : TriB P 0 c S (to e S2) := by
  intro ρ memb w hl hM ρa a wa hr hm
  obtain rfl : memb = [] := List.length_eq_zero_iff.1 hl
  refine wp_mono (h ρ [] w hl hM ρa a wa hr hm) ?_
  rintro e' a' w' ⟨S', ρ', ⟨h1, h2⟩, r, hmv⟩
  subst h2
  have hM' := r.mem
  have hnone : ∀ k x, ρ k = some x → False := fun k ⟨b, s⟩ hk => by
    obtain ⟨B, hB, _⟩ := hM.cell k b s hk
    cases hB
  let σ : Ren := ⟨fun _ => none, fun b => if w.heap.size ≤ b then cellsOf w' b else ρ'.h b, ρ'.d, fun _ => none⟩
  have hgn : ∀ b, ρ.g b = none := fun b => by
    cases hg : ρ.g b with
    | none => rfl
    | some x => obtain ⟨B, _, hB, _⟩ := (hM.lists.lst b x hg).list; cases hB
  have hσ1 : ∀ b, w.heap.size ≤ b → σ.h b = cellsOf w' b := fun b hb => if_pos hb
  have hσ2 : ∀ b, ¬ w.heap.size ≤ b → σ.h b = ρ'.h b := fun b hb => if_neg hb
  have hfr : ∀ x v u, Frz S'.mem x v → VR ρ' x u → VR σ v u := fun x v u hz hu => Frz.sound hM' (fun b cs i x hb hx => by
    by_cases hs : w.heap.size ≤ b
    · rw [hσ1 b hs]
      obtain ⟨_, h2, _⟩ := hM'.froz b cs hb
      obtain ⟨cs', h3, h4⟩ := cell_cellsOf (h2 i x hx)
      exact ⟨cs', h3, fun j y hy => h4 j y (h2 j y hy)⟩
    · rw [hσ2 b hs]
      exact ⟨cs, hb, fun _ _ h => h⟩) (fun k b s hk i x hx => by
    have hs : w.heap.size ≤ b := by
      cases h0 : ρ k with
      | some x => exact (hnone k x h0).elim
      | none => exact hmv.new k (b, s) hk h0
    rw [hσ1 b hs]
    exact cell_cellsOf hx) hz hu
  refine ⟨S2, σ, ⟨h1, rfl⟩, ⟨⟨hz.1.symm.trans r.tmps.1, fun i v u hv hu => ?_⟩, r.defers, ?_⟩, ?_⟩
  · have hx : ∃ y, S'.tmps[i]? = some y := ⟨_, List.getElem?_eq_getElem (by rw [hz.1]; exact (List.getElem?_eq_some_iff.1 hv).1)⟩
    obtain ⟨y, hy⟩ := hx
    rcases hz.2 i y v hy hv with hf | rfl
    · exact hfr y v u hf (r.tmps.2 i y u hy hu)
    · exact VR_wild
  · rw [hm2]
    refine ⟨fun k b s hk => (by cases hk), fun k b s k' b' s' B hk => (by cases hk), fun b cs hb => ?_, LRel.empty (fun _ => rfl) fun k B h _ => by cases h⟩
    by_cases hs : w.heap.size ≤ b
    · rw [hσ1 b hs] at hb
      obtain ⟨h1, h2⟩ := cellsOf_get hb
      exact ⟨h1, h2, fun k s B hk => by cases hk⟩
    · rw [hσ2 b hs] at hb
      obtain ⟨h1, h2, _⟩ := hM'.froz b cs hb
      exact ⟨h1, h2, fun k s B hk => by cases hk⟩
  · rw [hm2]
    refine ⟨⟨fun k x hk => (hnone k x hk).elim, fun b cs hb => ?_, hmv.sub.d, fun b x hx => by rw [hgn b] at hx; cases hx⟩, fun k x hk => (by cases hk), fun k B hB => (by cases hB), hmv.os, hmv.tape, hmv.output, hmv.size, fun b hb hg _ => hmv.block b hb hg fun k s B hk _ => (hnone k _ hk).elim, (fun b cs hb h0 => ?_), fun b x hx _ => by cases hx⟩
    · have h1 := (hM.froz b cs hb).1
      rw [hσ2 b (by omega)]
      exact hmv.sub.h b cs hb
    · by_cases hs : w.heap.size ≤ b
      · exact hs
      · rw [hσ2 b hs] at hb
        exact hmv.newh b cs hb h0
/-- A call out of its body's end. -/
theorem MC.of_body {f : FuncId} {fn : Func} {c : Code} (hf : P.funcs[f]? = some fn) (hb : fn.body = some c) {args : List Value} {S : St} {x : Exit} {v : Value} (h : TriB P 0 c ⟨args ++ List.replicate (fn.ntmps - args.length) undef, []⟩ (to x S)) (hx : Exit.isEnd x = true) (hr : resOf P fn S = some (true, v)) (hm : S.mem = [])
    (he : ∀ us w, (callFunc f us).run P w = .ok (.enter f us) w) : MC P f args [] v [] := by
  refine ⟨he, CT.of_tri hf hb (TriB.tri (S := ⟨args ++ List.replicate (fn.ntmps - args.length) undef, []⟩) (h.mono ?_))⟩
  rintro e S1 ⟨rfl, rfl⟩
  exact ⟨hx, v, hr, rfl, hm⟩
end
end Go.Ev
