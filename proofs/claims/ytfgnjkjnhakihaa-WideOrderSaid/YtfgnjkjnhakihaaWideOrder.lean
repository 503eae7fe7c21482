/-
  WideOrder: numbers are in an order, and sums keep it.
-/
import Derived.Test.YtfgnjkjnhakihaaWideOrderR
namespace Go.Proofs.Ytfgnjkjnhakihaa.R
open Go Go.Ev Go.W32
open Go.Proofs.Ytfgnjkjnhakihaa.W (mixed clamp WF Hi clamp_eq clamp_wf wadd wadd_wf wcmp ordI I64 wv wR wz textB awakeN add_pc enters_add text_pc enters_text cmp_pc enters_cmp str_refl)

section
variable {e0 e1 e2 : Bool} {n0 n1 n2 c0 c1 c2 : Nat} {k0 k1 k2 : Int} {q0 q1 q2 : List Value} {oa ob oc os ot sa sb sc ss st : Bool} {NA NB NC NS NT : Nat}
theorem wideOrder_mc {l0 l1 l2 : List Int} (hl0 : ∀ x ∈ l0, I64 x) (hk0 : I64 k0) (hl1 : ∀ x ∈ l1, I64 x) (hk1 : I64 k1) (hl2 : ∀ x ∈ l2, I64 x) (hk2 : I64 k2) :
    MC Try.prog 8 [numV 0 l0 c0 k0, numV 1 l1 c1 k1, numV 2 l2 c2 k2] [iB l0, iB l1, iB l2] (.bool true) [iB l0, iB l1, iB l2] := by
  show MC _ _ [numX l0.isEmpty 0 l0.length c0 k0, numX l1.isEmpty 1 l1.length c1 k1, numX l2.isEmpty 2 l2.length c2 k2] [qB (l0.map (Value.int .i64)), qB (l1.map (Value.int .i64)), qB (l2.map (Value.int .i64))] _ [qB (l0.map (Value.int .i64)), qB (l1.map (Value.int .i64)), qB (l2.map (Value.int .i64))]
  have x6 := lw3 (ints_low 6 l0) (ints_low 6 l1) (ints_low 6 l2)
  have x8 := lw3 (ints_low 8 l0) (ints_low 8 l1) (ints_low 8 l2)
  have x10 := lw3 (ints_low 10 l0) (ints_low 10 l1) (ints_low 10 l2)
  have u0 := fun (mem : Mem) (h : mem[0]? = some (qB (l0.map (Value.int .i64)))) => nOf_u (cap := c0) hl0 hk0 h
  have u1 := fun (mem : Mem) (h : mem[1]? = some (qB (l1.map (Value.int .i64)))) => nOf_u (cap := c1) hl1 hk1 h
  have u2 := fun (mem : Mem) (h : mem[2]? = some (qB (l2.map (Value.int .i64)))) => nOf_u (cap := c2) hl2 hk2 h
  have wA := numA_wf l0 k0
  have wB := numA_wf l1 k1
  have wC := numA_wf l2 k2
  generalize numA l0 k0 = A at *
  generalize numA l1 k1 = B at *
  generalize numA l2 k2 = C at *
  have wS := wadd_wf A C
  have wT := wadd_wf B C
  have hab := ucmp wA wB
  have hba := ucmp wB wA
  have hbc := ucmp wB wC
  have hac := ucmp wA wC
  have sac := uadd wA wC
  have sbc := uadd wB wC
  have hxy := ucmp wS wT
  cases A with
  | none =>
    have eb : wcmp B none = .tuple #[.int .i64 0, .bool false] := by cases B <;> rfl
    rw [eb] at hba
    exact wo_no (ints_no 3 l0) (ints_no 3 l1) (ints_no 3 l2) x6 x8 x10 (u0 _ rfl) (u1 _ rfl) (u2 _ rfl) hab hba (wcmp_form B C ▸ hbc) (wcmp_form none C ▸ hac) sac sbc hxy
  | some a =>
    cases B with
    | none => exact wo_no (ints_no 3 l0) (ints_no 3 l1) (ints_no 3 l2) x6 x8 x10 (u0 _ rfl) (u1 _ rfl) (u2 _ rfl) hab hba (wcmp_form none C ▸ hbc) (wcmp_form (some a) C ▸ hac) sac sbc (by
        have e : wcmp (wadd (some a) C) (wadd none C) = .tuple #[.int .i64 0, .bool false] := by cases wadd (some a) C <;> rfl
        rw [e] at hxy
        exact hxy)
    | some b =>
      have tA := utext wA
      cases C with
      | none =>
        rcases Int.lt_trichotomy a b with h | h | h
        · rw [wcmp_lt h] at hab; rw [wcmp_gt h] at hba
          exact wo_lN (ints_no 3 l0) (ints_no 3 l1) (ints_no 3 l2) x6 x8 x10 (u0 _ rfl) (u1 _ rfl) (u2 _ rfl) hab hba hbc hac sac sbc hxy
        · subst h
          rw [wcmp_eq rfl] at hab hba
          exact wo_eN (ints_no 3 l0) (ints_no 3 l1) (ints_no 3 l2) x6 x8 x10 (u0 _ rfl) (u1 _ rfl) (u2 _ rfl) hab hba tA tA hbc hac sac sbc hxy
        · rw [wcmp_gt h] at hab; rw [wcmp_lt h] at hba
          exact wo_gN (ints_no 3 l0) (ints_no 3 l1) (ints_no 3 l2) x6 x8 x10 (u0 _ rfl) (u1 _ rfl) (u2 _ rfl) hab hba hbc hac sac sbc hxy
      | some c =>
        have hsum : (∃ s t, wadd (some a) (some c) = some s ∧ wadd (some b) (some c) = some t ∧ a + c = s ∧ b + c = t) ∨ wcmp (wadd (some a) (some c)) (wadd (some b) (some c)) = .tuple #[.int .i64 0, .bool false] := by
          cases hS : wadd (some a) (some c) with
          | none => exact .inr rfl
          | some s =>
            cases hT : wadd (some b) (some c) with
            | none => exact .inr rfl
            | some t => exact .inl ⟨s, t, rfl, rfl, clamp_some hS, clamp_some hT⟩
        rcases Int.lt_trichotomy a b with h | h | h
        · rw [wcmp_lt h] at hab; rw [wcmp_gt h] at hba
          have hx : wcmp (wadd (some a) (some c)) (wadd (some b) (some c)) = .tuple #[.int .i64 0, .bool false] ∨ wcmp (wadd (some a) (some c)) (wadd (some b) (some c)) = .tuple #[.int .i64 (-1), .bool true] := by
            rcases hsum with ⟨s, t, e1, e2, e3, e4⟩ | e
            · rw [e1, e2]; exact .inr (wcmp_lt (by omega))
            · exact .inl e
          rcases Int.lt_trichotomy b c with h2 | h2 | h2
          · rw [wcmp_lt h2] at hbc; rw [wcmp_lt (show a < c by omega)] at hac
            rcases hx with e | e
            · rw [e] at hxy; exact wo_lan (ints_no 3 l0) (ints_no 3 l1) (ints_no 3 l2) x6 x8 x10 (u0 _ rfl) (u1 _ rfl) (u2 _ rfl) hab hba hbc hac sac sbc hxy
            · rw [e] at hxy; exact wo_lat (ints_no 3 l0) (ints_no 3 l1) (ints_no 3 l2) x6 x8 x10 (u0 _ rfl) (u1 _ rfl) (u2 _ rfl) hab hba hbc hac sac sbc hxy
          · rw [wcmp_eq h2] at hbc; rw [wcmp_lt (show a < c by omega)] at hac
            rcases hx with e | e
            · rw [e] at hxy; exact wo_lbn (ints_no 3 l0) (ints_no 3 l1) (ints_no 3 l2) x6 x8 x10 (u0 _ rfl) (u1 _ rfl) (u2 _ rfl) hab hba hbc hac sac sbc hxy
            · rw [e] at hxy; exact wo_lbt (ints_no 3 l0) (ints_no 3 l1) (ints_no 3 l2) x6 x8 x10 (u0 _ rfl) (u1 _ rfl) (u2 _ rfl) hab hba hbc hac sac sbc hxy
          · rw [wcmp_gt h2] at hbc
            rcases hx with e | e
            · rw [e] at hxy; exact wo_lcn (ints_no 3 l0) (ints_no 3 l1) (ints_no 3 l2) x6 x8 x10 (u0 _ rfl) (u1 _ rfl) (u2 _ rfl) hab hba hbc hac sac sbc hxy
            · rw [e] at hxy; exact wo_lct (ints_no 3 l0) (ints_no 3 l1) (ints_no 3 l2) x6 x8 x10 (u0 _ rfl) (u1 _ rfl) (u2 _ rfl) hab hba hbc hac sac sbc hxy
        · subst h
          rw [wcmp_eq rfl] at hab hba
          rcases hsum with ⟨s, t, e1, e2, e3, e4⟩ | e
          · rw [show wcmp (wadd (some a) (some c)) (wadd (some a) (some c)) = .tuple #[.int .i64 0, .bool true] from by rw [e1]; exact wcmp_eq rfl] at hxy
            exact wo_et (ints_no 3 l0) (ints_no 3 l1) (ints_no 3 l2) x6 x8 x10 (u0 _ rfl) (u1 _ rfl) (u2 _ rfl) hab hba tA tA hbc hac sac sbc hxy
          · rw [e] at hxy
            exact wo_en (ints_no 3 l0) (ints_no 3 l1) (ints_no 3 l2) x6 x8 x10 (u0 _ rfl) (u1 _ rfl) (u2 _ rfl) hab hba tA tA hbc hac sac sbc hxy
        · rw [wcmp_gt h] at hab; rw [wcmp_lt h] at hba
          rcases hsum with ⟨s, t, e1, e2, e3, e4⟩ | e
          · rw [show wcmp (wadd (some a) (some c)) (wadd (some b) (some c)) = .tuple #[.int .i64 1, .bool true] from by rw [e1, e2]; exact wcmp_gt (by omega)] at hxy
            exact wo_gt (ints_no 3 l0) (ints_no 3 l1) (ints_no 3 l2) x6 x8 x10 (u0 _ rfl) (u1 _ rfl) (u2 _ rfl) hab hba hbc hac sac sbc hxy
          · rw [e] at hxy
            exact wo_gn (ints_no 3 l0) (ints_no 3 l1) (ints_no 3 l2) x6 x8 x10 (u0 _ rfl) (u1 _ rfl) (u2 _ rfl) hab hba hbc hac sac sbc hxy
end
end Go.Proofs.Ytfgnjkjnhakihaa.R
