/-
  The reference: slices of words of 32 bits; trim, bits, made.
-/
import Derived.Test.YtljolfnpncjklaaGreatRefB
import Derived.Test.YtljolfnpncjklaaGreatRefN
import Derived.Test.YtljolfnpncjklaaGreatEv3
namespace Go.Ev
section
variable {P : Program}
theorem tsC {b : Bool} {l : List Bool} (h : b = true) (t : conj l = true) : conj (b :: l) = true := by rw [conj_cons, h, t]; rfl
def evM5 (P : Program) (c : Code) (fuel : Nat) (live : List Nat) (S : St) (ans : List Ans) : Option (Bool × Prop × Exit × St) :=
  match evM P c fuel live S ans with
  | some (a, b, x, y) => some (a, allP b, x, y)
  | none => none
/-- A round of a loop: the tests, the obligations, the end and the state are read off what is handed in. -/
theorem Tri.go (hm : P.follows .mixedOrders = true) {c : Code} (live : List Nat) (ans : List Ans) {S S' : St} {x : Exit} {X : Bool} {A : Prop} (hx : X = true) (ha : A) (e : evM5 P c 400 live S ans = some (X, A, x, S')) : Tri P c S (to x S') := by
  unfold evM5 at e
  split at e
  · rename_i a b y s he
    cases e
    exact Tri.of_ev hm 400 live ans he hx ha
  · cases e
def evFnR4 (P : Program) (fn : Func) (fuel : Nat) (keep : List Nat) (args : List Value) (mem : Mem) (ans : List Ans) : Option (Bool × Prop × Value × Mem) :=
  match evFnR P fn fuel keep args mem ans with
  | some (a, b, c, d) => some (a, allP b, c, d)
  | none => none
theorem MC.runR (hm : P.follows .mixedOrders = true) {f : FuncId} {fn : Func} (hf : P.funcs[f]? = some fn) (keep : List Nat) {args : List Value} {mem mem' mem'' : Mem} (ans : List Ans) {X : Bool} {A : Prop} {v v' : Value}
    (hx : X = true) (ha : A) (hr : v = v') (hr' : mem' = mem'') (he : ∀ us w, (callFunc f us).run P w = .ok (.enter f us) w) (e : evFnR4 P fn 400 keep args mem ans = some (X, A, v, mem')) : MC P f args mem v' mem'' := by
  subst hr hr'
  unfold evFnR4 at e
  split at e
  · rename_i a b c d h
    cases e
    exact MC.of_evR hm hf 400 keep ans h hx ha he
  · cases e
end
end Go.Ev
namespace Go.Proofs.YtljolfnpncjklaaGreat.R
open Go Go.Ev Go.W32
open Go.Proofs.YtljolfnpncjklaaGreat.W (mixed rsl i64_wrap u64_wrap u32_wrap bitLen_lt_iff enters_trim enters_rbits trim_mc rbits_mc rbits0_key)

theorem ltI {j n : Nat} (h : j < n) : decide ((j : Int) < (n : Int)) = true := decide_eq_true (by omega)
theorem ltA {i j n : Nat} (h : i + j < n) : decide (i + ((j : Nat) : Int).toNat * 1 < n) = true := decide_eq_true (by rw [Int.toNat_natCast]; omega)
theorem wrapN {n : Int} {m : Nat} (h : n = m) (hm : m ≤ 9223372036854775807) : decide (IntKind.i64.wrap n = (m : Int)) = true := by
  rw [h, i64_wrap (by omega) (by omega)]
  exact decide_eq_true rfl
theorem wrapU {n : Int} {m : Nat} (h : n = m) (hm : m < 18446744073709551616) : decide (IntKind.u64.wrap n = (m : Int)) = true := by
  rw [h, u64_wrap]
  exact decide_eq_true (by omega)
theorem map_set {f : Nat → Value} {n k : Nat} {v : Value} : ((List.range n).map f).set k v = (List.range n).map fun t => if t = k then v else f t := by
  apply List.ext_getElem
  · simp
  · intro t h1 h2
    rw [List.getElem_set]
    simp only [List.getElem_map, List.getElem_range]
    by_cases h : k = t
    · rw [if_pos h, if_pos h.symm]
    · rw [if_neg h, if_neg (fun e => h e.symm)]
def cells (m : Nat) (f : Nat → Nat) : List Value := (List.range m).map fun t => .int .u32 (f t)
theorem cells_len (m : Nat) (f : Nat → Nat) : (cells m f).length = m := by unfold cells; simp
theorem cells_get {m i j : Nat} (f : Nat → Nat) (h : i + j < m) : (cells m f).getD (i + ((j : Nat) : Int).toNat * 1) undef = .int .u32 (f (i + j)) := by
  unfold cells
  rw [Int.toNat_natCast, Nat.mul_one, List.getD_eq_getElem?_getD, List.getElem?_map, List.getElem?_range h]
  rfl
theorem cells_get0 {m j : Nat} (f : Nat → Nat) (h : j < m) : (cells m f).getD (0 + ((j : Nat) : Int).toNat * 1) undef = .int .u32 (f j) := by
  have := cells_get (i := 0) f (show 0 + j < m by omega)
  rw [Nat.zero_add] at this
  rw [Nat.zero_add]
  exact (by rwa [Nat.zero_add] at this)
theorem cells_set (m : Nat) (f : Nat → Nat) (j v : Nat) : (cells m f).set (0 + ((j : Nat) : Int).toNat * 1) (.int .u32 v) = cells m (fun t => if t = j then v else f t) := by
  unfold cells
  rw [map_set, Int.toNat_natCast, Nat.zero_add, Nat.mul_one]
  refine List.map_congr_left fun i _ => ?_
  by_cases h : i = j
  · rw [if_pos h]; simp only [if_pos h]
  · rw [if_neg h]; simp only [if_neg h]
theorem cells_congr {m : Nat} {f g : Nat → Nat} (h : ∀ t, t < m → f t = g t) : cells m f = cells m g := by
  unfold cells
  refine List.map_congr_left fun i hi => ?_
  rw [h i (List.mem_range.1 hi)]
theorem cells_rep (m : Nat) : List.replicate (((m : Nat) : Int)).toNat (Value.int .u32 0) = cells m (fun _ => 0) := by
  unfold cells
  rw [Int.toNat_natCast, List.map_const', List.length_range]
  rfl
theorem cells_noNew (m : Nat) (f : Nat → Nat) (n : Nat) : (cells m f).all (noNew1 n) = true := by
  unfold cells
  rw [List.all_map, List.all_eq_true]
  intro t _
  rfl
theorem cells_flat (m : Nat) (f : Nat → Nat) : (cells m f).all flat1 = true := by
  unfold cells
  rw [List.all_map, List.all_eq_true]
  intro t _
  rfl
/-- A block of a number's words. -/
def blk (own : Bool) (m N : Nat) : Blk := ⟨cells m (wd N), 77, own⟩
theorem nw_lt {N n : Nat} : ∀ i, nw N ≤ i → i < n → wd N i = 0 := fun i h1 _ => wd_eq_zero (Nat.lt_of_lt_of_le (lt_nw N) (Nat.pow_le_pow_right (by omega) (by omega)))
theorem trim_c {n m N : Nat} (hN : N < 2 ^ (32 * n)) (hn : n ≤ m) (hm : m < 1000) : MC Tryz.prog 77 [rsl 0 n m] [blk false m N] (rsl 0 (nw N) m) [blk false m N] :=
  trim_mc (fun i hi => cells_get0 (wd N) (by omega)) (by rw [cells_len]; exact hn) (cells_noNew m (wd N) 1) hn (by omega) (nw_le hN) nw_lt (fun h => by rw [wd_top h]; exact (nw_top h).1)
/-- In any memory that holds the words. -/
theorem trim_at {n m N k : Nat} {mem : Mem} {C : Blk} (hN : N < 2 ^ (32 * n)) (hn : n ≤ m) (hm : m < 1000) (hC : mem[k]? = some C) (hc : C.cells = cells m (wd N)) : MC Tryz.prog 77 [rsl k n m] mem (rsl k (nw N) m) mem := by
  have h := MC.frame (σ := [k]) (mem0 := [blk false m N]) (news := []) (mem := mem) (trim_c hN hn hm) rfl (fun B hB => by
    cases hB with
    | head => exact ⟨rfl, cells_flat m (wd N)⟩
    | tail _ h => cases h) (fun B hB => by cases hB) (fun i k' B h1 h2 => by
    cases i with
    | zero =>
      cases h1; cases h2
      exact ⟨C, hC, hc⟩
    | succ i => cases h1) rfl (fun i hi => by
    have : i = 0 := by simpa using hi
    subst this
    rfl) rfl
  rw [List.append_nil] at h
  exact h
theorem bits_zero {m : Nat} {f : Nat → Nat} : MC Tryz.prog 17 [rsl 0 0 m] [⟨cells m f, 77, false⟩] (.int .i64 0) [⟨cells m f, 77, false⟩] :=
  MC.of_ev mixed Tryz.func17 400 _ (rbits0_key m (cells m f)) (by rw [conj_cons, conj_nil, cells_noNew]; rfl) trivial enters_rbits
theorem rbits_c {m N : Nat} (hn : nw N ≤ m) (hm : m < 1000) : MC Tryz.prog 17 [rsl 0 (nw N) m] [blk false m N] (.int .i64 (bitLen N)) [blk false m N] := by
  by_cases h0 : nw N = 0
  · have hN : N = 0 := by have := lt_nw N; rw [h0] at this; simpa using this
    have hb : bitLen N = 0 := by rw [hN]; rfl
    rw [h0, hb]
    exact bits_zero
  · obtain ⟨k, hk⟩ : ∃ k, nw N = k + 1 := ⟨nw N - 1, by omega⟩
    have hb := bitLen_nw h0
    rw [hk, Nat.add_sub_cancel] at hb
    rw [hk, hb]
    exact rbits_mc (cells_get0 (wd N) (by omega)) (by rw [cells_len]; omega) (cells_noNew m (wd N) 1) (by omega) (wd_lt N k)
theorem rbits_at {m N k : Nat} {mem : Mem} {C : Blk} (hn : nw N ≤ m) (hm : m < 1000) (hC : mem[k]? = some C) (hc : C.cells = cells m (wd N)) : MC Tryz.prog 17 [rsl k (nw N) m] mem (.int .i64 (bitLen N)) mem := by
  have h := MC.frame (σ := [k]) (mem0 := [blk false m N]) (news := []) (mem := mem) (rbits_c hn hm) rfl (fun B hB => by
    cases hB with
    | head => exact ⟨rfl, cells_flat m (wd N)⟩
    | tail _ h => cases h) (fun B hB => by cases hB) (fun i k' B h1 h2 => by
    cases i with
    | zero =>
      cases h1; cases h2
      exact ⟨C, hC, hc⟩
    | succ i => cases h1) rfl (fun i hi => by
    have : i = 0 := by simpa using hi
    subst this
    rfl) rfl
  rw [List.append_nil] at h
  exact h

/-! ### made -/
theorem enters_made : ∀ us w, (callFunc 37 us).run Tryz.prog w = .ok (.enter 37 us) w := enters Tryz.func37 rfl (by kernel_rfl)
/-- A number over a block, or over. -/
def big (s : Bool) (k n m : Nat) : Value := .agg #[.bool s, .bool false, rsl k n m]
def bigO : Value := .agg #[.bool false, .bool true, .slice none 0 0]
def bigZ : Blk := ⟨[.bool false, .bool false, .slice none 0 0], 36, true⟩
theorem made_over {s : Bool} {n m t b : Nat} {q : List Value} (hb : (b : Int) > 1023) (hn : q.all (noNew1 1) = true) (h1 : MC Tryz.prog 77 [rsl 0 n m] [⟨q, 77, false⟩, bigZ] (rsl 0 t m) [⟨q, 77, false⟩, bigZ]) (h2 : MC Tryz.prog 17 [rsl 0 t m] [⟨q, 77, false⟩, bigZ] (.int .i64 b) [⟨q, 77, false⟩, bigZ]) :
    MC Tryz.prog 37 [.bool s, rsl 0 n m] [⟨q, 77, false⟩] bigO [⟨q, 77, false⟩] :=
  MC.run mixed Tryz.func37 [.mem (rsl 0 t m) [⟨q, 77, false⟩, bigZ], .mem (.int .i64 b) [⟨q, 77, false⟩, bigZ], .tst true] (ts2 (ts1 (tT hb)) hn) (qs2 h1 h2) rfl rfl enters_made (by kernel_rfl)
def madeS (s : Bool) (t : Nat) : Bool := match s with | true => decide ((t : Int) > 0) | false => false
theorem made_ok {s : Bool} {n m t b : Nat} {q : List Value} (hb : ¬ (b : Int) > 1023) (hn : q.all (noNew1 1) = true) (h1 : MC Tryz.prog 77 [rsl 0 n m] [⟨q, 77, false⟩, bigZ] (rsl 0 t m) [⟨q, 77, false⟩, bigZ]) (h2 : MC Tryz.prog 17 [rsl 0 t m] [⟨q, 77, false⟩, bigZ] (.int .i64 b) [⟨q, 77, false⟩, bigZ]) :
    MC Tryz.prog 37 [.bool s, rsl 0 n m] [⟨q, 77, false⟩] (big (madeS s t) 0 t m) [⟨q, 77, false⟩] := by
  cases s
  · exact MC.run mixed Tryz.func37 [.mem (rsl 0 t m) [⟨q, 77, false⟩, bigZ], .mem (.int .i64 b) [⟨q, 77, false⟩, bigZ], .tst false] (ts2 (ts1 (tF hb)) hn) (qs2 h1 h2) rfl rfl enters_made (by kernel_rfl)
  · exact MC.run mixed Tryz.func37 [.mem (rsl 0 t m) [⟨q, 77, false⟩, bigZ], .mem (.int .i64 b) [⟨q, 77, false⟩, bigZ], .tst false] (ts2 (ts1 (tF hb)) hn) (qs2 h1 h2) rfl rfl enters_made (by kernel_rfl)
/-- What made gives for a number N below 2 ^ (32 n). -/
def madeV (s : Bool) (N k m : Nat) : Value := match decide (bitLen N > 1023) with | true => bigO | false => big (s && decide (N ≠ 0)) k (nw N) m
theorem nw_pos {N : Nat} : 0 < nw N ↔ N ≠ 0 := by
  constructor
  · intro h e
    subst e
    exact absurd h (by decide)
  · intro h
    rcases Nat.eq_zero_or_pos (nw N) with e | e
    · have := lt_nw N
      rw [e] at this
      omega
    · exact e
theorem made_c {s : Bool} {n m N : Nat} (hN : N < 2 ^ (32 * n)) (hn : n ≤ m) (hm : m < 1000) : MC Tryz.prog 37 [.bool s, rsl 0 n m] [blk false m N] (madeV s N 0 m) [blk false m N] := by
  have h1 := trim_at (n := n) (m := m) (N := N) (k := 0) (mem := [blk false m N, bigZ]) hN hn hm rfl rfl
  have h2 := rbits_at (m := m) (N := N) (k := 0) (mem := [blk false m N, bigZ]) (Nat.le_trans (nw_le hN) hn) hm rfl rfl
  unfold madeV
  by_cases h : bitLen N > 1023
  · rw [decide_eq_true h]
    exact made_over (by omega) (cells_noNew m (wd N) 1) h1 h2
  · rw [decide_eq_false h]
    have key := made_ok (s := s) (by omega) (cells_noNew m (wd N) 1) h1 h2
    have e : madeS s (nw N) = (s && decide (N ≠ 0)) := by
      cases s
      · rfl
      · show decide _ = (true && decide _)
        rw [Bool.true_and]
        exact decide_eq_decide.2 (by rw [← nw_pos]; omega)
    rw [e] at key
    exact key
theorem okV_made (s : Bool) (N m : Nat) : okV 1 (madeV s N 0 m) = true := by
  unfold madeV
  split <;> rfl
theorem fV_made (s : Bool) (N k m l : Nat) : fV [k] l (madeV s N 0 m) = madeV s N k m := by
  unfold madeV
  split <;> rfl
theorem made_at {s : Bool} {n m N k : Nat} {mem : Mem} {C : Blk} (hN : N < 2 ^ (32 * n)) (hn : n ≤ m) (hm : m < 1000) (hC : mem[k]? = some C) (hc : C.cells = cells m (wd N)) : MC Tryz.prog 37 [.bool s, rsl k n m] mem (madeV s N k m) mem := by
  have h := MC.frame (σ := [k]) (mem0 := [blk false m N]) (news := []) (mem := mem) (made_c (s := s) hN hn hm) rfl (fun B hB => by
    cases hB with
    | head => exact ⟨rfl, cells_flat m (wd N)⟩
    | tail _ h => cases h) (fun B hB => by cases hB) (fun i k' B h1 h2 => by
    cases i with
    | zero =>
      cases h1; cases h2
      exact ⟨C, hC, hc⟩
    | succ i => cases h1) rfl (fun i hi => by
    have : i = 0 := by simpa using hi
    subst this
    rfl) (okV_made s N m)
  rw [List.append_nil, fV_made] at h
  exact h
end Go.Proofs.YtljolfnpncjklaaGreat.R
