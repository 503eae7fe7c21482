/-
  Package golden: what a weight is asked, and what the search comes to.
-/
import Derived.Test.YtaibhjphgdjcmaaGreatEv5
import Derived.Test.YtaibhjphgdjcmaaGreatInfoM
namespace Go.Proofs.YtaibhjphgdjcmaaGreat.W
open Go Go.Ev Go.Wide

/-- What was answered for a weight. -/
structure An where
  w : Int
  v : Int
  has : Bool
def An.val (a : An) : Value := .agg #[.int .i64 a.w, .int .i64 a.v, .bool a.has]
def An.cells (a : An) : List Value := [.int .i64 a.w, .int .i64 a.v, .bool a.has]
def aBlk (a : An) : Blk := ⟨a.cells, 158, true⟩
def lessA (g h : An) : Bool := g.has && (!h.has || decide (g.v < h.v))
theorem enters_lessA : ∀ us w, (callFunc 134 us).run Tryz.prog w = .ok (.enter 134 us) w := enters Tryz.func134 rfl (by kernel_rfl)
theorem lessA_pc (g h : An) : PC Tryz.prog 134 [g.val, h.val] (.bool (lessA g h)) := by
  obtain ⟨w, v, b⟩ := g
  obtain ⟨w', v', b'⟩ := h
  cases b <;> cases b' <;> exact PC.run mixed Tryz.func134 [] rfl ts0 qs0 rfl rfl (by kernel_rfl)
theorem lessA_qc (g h : An) (r : Bool) (e : lessA g h = r) : QC Tryz.prog 134 [g.val, h.val] (.bool r) := e ▸ QC.of_pc enters_lessA (lessA_pc g h)

/-! ### ask -/
theorem enters_ask : ∀ us w, (callFunc 133 us).run Tryz.prog w = .ok (.enter 133 us) w := enters Tryz.func133 rfl (by kernel_rfl)
theorem enters_ask1 : ∀ us w, (callFunc 149 us).run Tryz.prog w = .ok (.enter 149 us) w := enters Tryz.func149 rfl (by kernel_rfl)
theorem ask1_idle (w : World) : CallsD Tryz.prog 149 #[] .returning w fun e u' w' => (∃ v, e = .returned v) ∧ u' = .returning ∧ w' = w :=
  recovers_idle Tryz.func149 rfl rfl rfl rfl w
/-- The answer that a call's two results make. -/
def mkA (w : Int) (p : Int × Bool) : An := match p.2 with | true => ⟨w, p.1, true⟩ | false => ⟨w, 0, false⟩
theorem low_flat {n : Nat} {v : Value} (h : flat1 v = true) : low1 n v = true ∧ noNew1 n v = true := by
  cases v with
  | pointer a => cases a with | none => exact ⟨rfl, rfl⟩ | some a => cases h
  | slice a l c => cases a with | none => exact ⟨rfl, rfl⟩ | some a => cases h
  | func f x y =>
    simp only [flat1, Bool.and_eq_true, List.all_eq_true] at h
    have k : ∀ x : Value, flat0 x = true → low0 n x = true ∧ noNew0 n x = true := fun x hx => by
      cases x with
      | pointer a => cases a with | none => exact ⟨rfl, rfl⟩ | some a => cases hx
      | _ => exact ⟨rfl, rfl⟩
    simp only [low1, noNew1, Bool.and_eq_true, List.all_eq_true]
    exact ⟨⟨fun z hz => (k z (h.1 z hz)).1, fun z hz => (k z (h.2 z hz)).1⟩, fun z hz => (k z (h.1 z hz)).2, fun z hz => (k z (h.2 z hz)).2⟩
  | iface t v => cases v with
    | slice a l c => cases a with
      | none => cases c with | zero => exact ⟨rfl, rfl⟩ | succ c => cases h
      | some a => exact ⟨rfl, rfl⟩
    | _ => exact ⟨rfl, rfl⟩
  | _ => exact ⟨rfl, rfl⟩
theorem lows {n : Nat} {l : List Value} (h : l.all flat1 = true) : l.all (low1 n) = true := List.all_eq_true.2 fun v hv => (low_flat (List.all_eq_true.1 h v hv)).1
theorem noNews {n : Nat} {l : List Value} (h : l.all flat1 = true) : l.all (noNew1 n) = true := List.all_eq_true.2 fun v hv => (low_flat (List.all_eq_true.1 h v hv)).2

/-! ### The search in smallest: what its memory holds -/
def arrC : Nat := 139
def memS (B0 B1 : Blk) (E : List Value) (g : FuncId) (C : List Value) (e : Bool) : Mem :=
  [B0, B1, eBlk E, ⟨[.func (.func g) #[] #[ptr 0, ptr 1]], 126, true⟩, eBlk (ellC 0 0 0 0 0), ⟨C, 139, true⟩, ⟨[.bool e], 4, true⟩]
def clS : Value := .func (.func 114) #[] #[ptr 3, ptr 5, ptr 6]
section S
variable {B0 B1 : Blk} {E : List Value} {g : FuncId} {C C' : List Value} {e e' : Bool}
theorem lowS (h0 : B0.cells.all flat1 = true) (h1 : B1.cells.all flat1 = true) (hE : E.all flat1 = true) (hC : C.all flat1 = true) : ∀ B ∈ memS B0 B1 E g C e, B.cells.all (low1 7) = true := by
  intro B hB
  simp only [memS, List.mem_cons, List.not_mem_nil, or_false] at hB
  rcases hB with rfl | rfl | rfl | rfl | rfl | rfl | rfl
  · exact lows h0
  · exact lows h1
  · exact lows hE
  · rfl
  · rfl
  · exact lows hC
  · rfl
theorem askS {w : Int} {p : Int × Bool} (h0 : B0.cells.all flat1 = true) (h1 : B1.cells.all flat1 = true) (hE : E.all flat1 = true) (hC : C.all flat1 = true) (hC' : C'.all flat1 = true)
    (h : MC Tryz.prog 114 [.int .i64 w, ptr 3, ptr 5, ptr 6] (memS B0 B1 E g C e) (.tuple #[.int .i64 p.1, .bool p.2]) (memS B0 B1 E g C' e')) :
    MC Tryz.prog 133 [clS, .int .i64 w] (memS B0 B1 E g C e) (mkA w p).val (memS B0 B1 E g C' e') := by
  obtain ⟨v, b⟩ := p
  have hp := h.pad [aBlk ⟨w, 0, false⟩] rfl rfl (lowS h0 h1 hE hC) (lowS h0 h1 hE hC') rfl
  have t0 : B0.cells.all (noNew1 7) = true := noNews h0
  have t1 : B1.cells.all (noNew1 7) = true := noNews h1
  have t2 : E.all (noNew1 7) = true := noNews hE
  have t3 : C'.all (noNew1 7) = true := noNews hC'
  cases b with
  | true => exact MC.runD mixed Tryz.func133 2 149 enters_ask1 ask1_idle [.mem (.tuple #[.int .i64 v, .bool true]) (memS B0 B1 E g C' e' ++ [aBlk ⟨w, 0, false⟩])] (ts4 t0 t1 t2 t3) (qs1 hp) rfl rfl enters_ask (by kernel_rfl)
  | false => exact MC.runD mixed Tryz.func133 2 149 enters_ask1 ask1_idle [.mem (.tuple #[.int .i64 v, .bool false]) (memS B0 B1 E g C' e' ++ [aBlk ⟨w, 0, false⟩])] (ts4 t0 t1 t2 t3) (qs1 hp) rfl rfl enters_ask (by kernel_rfl)
end S
end Go.Proofs.YtaibhjphgdjcmaaGreat.W
