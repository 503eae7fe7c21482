/-
  The program's Shift.
-/
import Derived.Test.YtpbkkechkcalgaaWideI
namespace Go.Proofs.Ytpbkkechkcalgaa.W
open Go Go.Ev Go.Wide

theorem bitLen_shift {M : Nat} (h : M ≠ 0) (k : Nat) : bitLen (M * 2 ^ k) = bitLen M + k := by
  have hs := bitLen_spec M
  have h1 : bitLen (M * 2 ^ k) ≤ bitLen M + k := bitLen_lt_iff.2 (by rw [Nat.pow_add]; exact Nat.mul_lt_mul_of_pos_right hs.1 (Nat.two_pow_pos _))
  have h0 : bitLen M ≠ 0 := fun e => by
    have := hs.1
    rw [e] at this
    simp at this
    exact h this
  by_cases h2 : bitLen (M * 2 ^ k) ≤ bitLen M - 1 + k
  · have := bitLen_lt_iff.1 h2
    rw [Nat.pow_add] at this
    have := Nat.lt_of_mul_lt_mul_right this
    have := hs.2 h
    omega
  · omega
theorem sg_natAbs (z : Int) : sg z.natAbs (decide (z < 0)) = z := by
  by_cases h : z < 0
  · rw [decide_eq_true h]; simp only [sg]; omega
  · rw [decide_eq_false h]; simp only [sg]; omega
theorem sg_up (M n : Nat) (s : Bool) : sg (M * 2 ^ n) s = sg M s * 2 ^ n := by
  have e : ((M * 2 ^ n : Nat) : Int) = (M : Int) * 2 ^ n := by push_cast; rfl
  cases s
  · exact e
  · simp only [sg]
    rw [e, Int.neg_mul]
theorem sg_down (M n : Nat) (s : Bool) : sg (downK (M / 2 ^ n) (decide (M / 2 ^ n * 2 ^ n = M)) s) s = sg M s / 2 ^ n := by
  have e : ((2 : Int) ^ n) = ((2 ^ n : Nat) : Int) := by push_cast; rfl
  rw [e]
  have hp : 0 < 2 ^ n := Nat.two_pow_pos n
  generalize 2 ^ n = D at *
  cases s
  · rw [show downK (M / D) (decide (M / D * D = M)) false = M / D from rfl]
    exact Int.natCast_ediv M D
  · have hM := Nat.div_add_mod M D
    have hr := Nat.mod_lt M hp
    have hcast : (M : Int) = (D : Int) * ((M / D : Nat) : Int) + ((M % D : Nat) : Int) := by
      conv => lhs; rw [← hM]
      push_cast; rfl
    have hD : (0 : Int) < (D : Int) := by omega
    generalize hq : M / D = q at *
    generalize hm : M % D = r at *
    rw [Nat.mul_comm] at hM
    by_cases h0 : r = 0
    · have h1 : q * D = M := by omega
      rw [decide_eq_true h1]
      show -((q : Nat) : Int) = -(M : Int) / D
      have := ((Int.ediv_emod_unique (a := -(M : Int)) (b := D) (r := 0) (q := -(q : Int)) hD).2 ⟨by rw [hcast, h0, Int.mul_neg]; omega, by omega, by omega⟩).1
      exact this.symm
    · have h1 : ¬ (q * D = M) := by omega
      rw [decide_eq_false h1]
      show -((q + 1 : Nat) : Int) = -(M : Int) / D
      have := ((Int.ediv_emod_unique (a := -(M : Int)) (b := D) (r := (D : Int) - r) (q := -((q + 1 : Nat) : Int)) hD).2 ⟨by
        have e2 : (D : Int) * -((q + 1 : Nat) : Int) = -((D : Int) * q) - D := by
          rw [Int.mul_neg, Int.natCast_add, Int.mul_add]
          show -((D : Int) * q + D * 1) = _
          omega
        rw [e2, hcast]; omega, by omega, by omega⟩).1
      exact this.symm

def wshift : Option Int → Int → Option Int
  | none, _ => none
  | some z, k => match decide (k < 0) with
    | true => clamp (z / 2 ^ (-k).toNat)
    | false => clamp (z * 2 ^ k.toNat)
theorem wshift_wf (A : Option Int) (k : Int) : WF (wshift A k) := by
  unfold wshift
  split
  · intro z h; cases h
  · split <;> exact clamp_wf _

theorem shiftUp_pc {z k : Int} (hz : z.natAbs < Hi) (h0 : 0 ≤ k) (hk : k ≤ 9223372036854775807) : PC Try.prog 62 [wv (some z), .int .i64 k] (wv (clamp (z * 2 ^ k.toNat))) := by
  have hT := Hi_T16
  have hb := bitLen_pc (N := z.natAbs) (by omega)
  have hfl : [wv (some z), .int .i64 k].all flat = true := by simp [flat_wv]; rfl
  have hb2 : bitLen z.natAbs ≤ 1023 := bitLen_Hi.2 hz
  by_cases hz0 : z = 0
  · subst hz0
    have e : bitLen (0 : Int).natAbs = 0 := by
      have := (bitLen_lt_iff (x := (0 : Int).natAbs) (n := 0)).2 (by simp)
      omega
    rw [e] at hb
    rw [Int.zero_mul, clamp_eq hz]
    exact PC.of_ev3 mixed Try.func62 400 _ (up0_key 0 _ k) hfl rfl ⟨QC.of_pc enters_bitLen hb, trivial⟩ (flat_wR _ _ _) rfl
  · have hM : z.natAbs ≠ 0 := by omega
    have hne : bitLen z.natAbs ≠ 0 := fun e => hM (by
      have := (bitLen_spec z.natAbs).1
      rw [e] at this
      simpa using this)
    have hbs := bitLen_shift hM k.toNat
    have hab : (z * 2 ^ k.toNat).natAbs = z.natAbs * 2 ^ k.toNat := by
      rw [Int.natAbs_mul, Int.natAbs_pow]; rfl
    have hw : IntKind.i64.wrap (1023 - (bitLen z.natAbs : Int)) = 1023 - (bitLen z.natAbs : Int) := i64_wrap (by omega) (by omega)
    have h1 : (!((bitLen z.natAbs : Int) == 0)) = true := by
      rw [Bool.not_eq_true', beq_eq_false_iff_ne]; omega
    by_cases hov : k > 1023 - (bitLen z.natAbs : Int)
    · have key := upO_key z.natAbs (decide (z < 0)) k (bitLen z.natAbs)
      have hc : clamp (z * 2 ^ k.toNat) = none := by
        unfold clamp
        rw [if_neg]
        intro h
        rw [hab] at h
        have := bitLen_Hi.2 h
        omega
      rw [hc]
      exact PC.of_ev3 mixed Try.func62 400 _ key hfl (by rw [conj_cons, conj_cons, conj_nil, h1, hw, decide_eq_true hov]; rfl) ⟨QC.of_pc enters_bitLen hb, trivial⟩ (flat_wR _ _ _) rfl
    · obtain ⟨o, L, t, e⟩ := wv_form (clamp (z * 2 ^ k.toNat))
      have hlt : z.natAbs * 2 ^ k.toNat < Hi := bitLen_Hi.1 (by omega)
      have hs := signed_pc (K := z.natAbs * 2 ^ k.toNat) (by omega) (decide (z < 0))
      have e2 : sgn (z.natAbs * 2 ^ k.toNat) (decide (z < 0)) = clamp (z * 2 ^ k.toNat) := by
        unfold sgn
        rw [sg_up, sg_natAbs]
      rw [e2, e] at hs
      have hu := shiftedUp_pc (N := z.natAbs) (c := k.toNat) (by omega) (by omega)
      rw [show ((k.toNat : Nat) : Int) = k by omega] at hu
      have key := upS_key z.natAbs (z.natAbs * 2 ^ k.toNat) L (decide (z < 0)) o t k (bitLen z.natAbs)
      rw [e]
      exact PC.of_ev3 mixed Try.func62 400 _ key hfl (by rw [conj_cons, conj_cons, conj_nil, h1, hw, decide_eq_false hov]; rfl)
        ⟨QC.of_pc enters_bitLen hb, QC.of_pc enters_shiftedUp hu, QC.of_pc enters_signed hs, trivial⟩ (flat_wR _ _ _) rfl
theorem enters_shiftUp : ∀ us w, (callFunc 62 us).run Try.prog w = .ok (.enter 62 us) w := enters Try.func62 rfl (by kernel_rfl)

def eqL (x y : Nat → Nat) : List Nat → Bool
  | [] => true
  | i :: l => ((x i : Int) == (y i : Int)) && eqL x y l
theorem eqL_iff {x y : Nat → Nat} : ∀ {l : List Nat}, eqL x y l = true ↔ ∀ i ∈ l, x i = y i
  | [] => by simp [eqL]
  | i :: l => by
    simp only [eqL, Bool.and_eq_true, eqL_iff, List.mem_cons, forall_eq_or_imp, beq_iff_eq, Int.natCast_inj]
theorem eqL_eq {M N : Nat} (hM : M < T16) (hN : N < T16) : eqL (wd M) (wd N) (List.range 16) = decide (M = N) := by
  rw [Bool.eq_iff_iff, eqL_iff, decide_eq_true_eq]
  constructor
  · intro h
    have := div_eq_of_words hM hN 16 0 rfl (fun i _ hi => h i (List.mem_range.2 hi))
    simpa using this
  · rintro rfl i _; rfl
def downC (k : Int) : Int := IntKind.i64.wrap (0 - if -1023 > k then -1023 else k)
theorem down2_key (M K J L : Nat) (s o t : Bool) (k : Int) : evFn3 Try.prog Try.f61 400 [wR false M s, .int .i64 k] [.res (mag K), .res (mag J), .res (wR o L t)] =
    some (true, [QC Try.prog 56 [mag M, .int .i64 (downC k)] (mag K), QC Try.prog 53 [mag K, .int .i64 (downC k)] (mag J),
      QC Try.prog 68 [mag K, .bool (eqL (wd J) (wd M) (List.range 16)), .bool s] (wR o L t)], wR o L t) := by cases o <;> kernel_rfl
theorem downC_eq {k : Int} (h0 : k < 0) (h1 : -9223372036854775808 ≤ k) : ∃ c : Nat, downC k = c ∧ c ≤ 1023 ∧ (c = (-k).toNat ∨ (c = 1023 ∧ 1023 ≤ (-k).toNat)) := by
  unfold downC
  by_cases h : -1023 > k
  · rw [if_pos h]
    exact ⟨1023, i64_wrap (by omega) (by omega), by omega, .inr ⟨rfl, by omega⟩⟩
  · rw [if_neg h]
    exact ⟨(-k).toNat, by rw [i64_wrap (by omega) (by omega)]; omega, by omega, .inl rfl⟩
theorem lt_Hi_pow {M c : Nat} (h : M < Hi) (hc : 1023 ≤ c) : M < 2 ^ c := bitLen_lt_iff.1 (Nat.le_trans (bitLen_Hi.2 h) hc)
theorem shiftDown_pc {z k : Int} (hz : z.natAbs < Hi) (h0 : k < 0) (hk : -9223372036854775808 ≤ k) : PC Try.prog 61 [wv (some z), .int .i64 k] (wv (clamp (z / 2 ^ (-k).toNat))) := by
  have hT := Hi_T16
  have hfl : [wv (some z), .int .i64 k].all flat = true := by simp [flat_wv]; rfl
  obtain ⟨c, hc, hc1, hc2⟩ := downC_eq h0 hk
  have hd := shiftedDown_pc (N := z.natAbs) (c := c) (by omega) (by omega)
  have hle : z.natAbs / 2 ^ c * 2 ^ c ≤ z.natAbs := Nat.div_mul_le_self _ _
  have hle2 : z.natAbs / 2 ^ c ≤ z.natAbs := Nat.div_le_self _ _
  have hu := shiftedUp_pc (N := z.natAbs / 2 ^ c) (c := c) (by omega) (by omega)
  have hr := rounded_pc (M := z.natAbs / 2 ^ c) (by have := Hi_pos; omega) (decide (z.natAbs / 2 ^ c * 2 ^ c = z.natAbs)) (decide (z < 0))
  have hsame : sgn (downK (z.natAbs / 2 ^ c) (decide (z.natAbs / 2 ^ c * 2 ^ c = z.natAbs)) (decide (z < 0))) (decide (z < 0)) = clamp (z / 2 ^ (-k).toNat) := by
    unfold sgn
    refine congrArg clamp ?_
    have e : ∀ n, sg (downK (z.natAbs / 2 ^ n) (decide (z.natAbs / 2 ^ n * 2 ^ n = z.natAbs)) (decide (z < 0))) (decide (z < 0)) = z / 2 ^ n := fun n => by
      rw [sg_down, sg_natAbs]
    rcases hc2 with hc2 | ⟨hc2, hc3⟩
    · rw [e c, ← hc2]
    · rw [← e (-k).toNat, Nat.div_eq_of_lt (lt_Hi_pow hz hc3), Nat.div_eq_of_lt (lt_Hi_pow hz (by omega)), Nat.zero_mul, Nat.zero_mul]
  rw [hsame] at hr
  obtain ⟨o, L, t, e⟩ := wv_form (clamp (z / 2 ^ (-k).toNat))
  rw [e] at hr ⊢
  rw [← hc] at hd hu
  rw [← eqL_eq (by omega) (by omega)] at hr
  exact PC.of_ev3 mixed Try.func61 400 _ (down2_key z.natAbs (z.natAbs / 2 ^ c) (z.natAbs / 2 ^ c * 2 ^ c) L (decide (z < 0)) o t k) hfl rfl
    ⟨QC.of_pc enters_shiftedDown hd, QC.of_pc enters_shiftedUp hu, QC.of_pc enters_rounded hr, trivial⟩ (flat_wR _ _ _) rfl
theorem enters_shiftDown : ∀ us w, (callFunc 61 us).run Try.prog w = .ok (.enter 61 us) w := enters Try.func61 rfl (by kernel_rfl)

theorem shiftO_key (k : Int) : evFn3 Try.prog Try.f51 400 [wR true 0 false, .int .i64 k] [] = some (true, [], wR true 0 false) := by kernel_rfl
theorem shiftN_key (M L : Nat) (s o t : Bool) (k : Int) : evFn3 Try.prog Try.f51 400 [wR false M s, .int .i64 k] [.auto, .tst true, .res (wR o L t)] =
    some (conj [decide (k < 0)], [QC Try.prog 61 [wR false M s, .int .i64 k] (wR o L t)], wR o L t) := by cases o <;> kernel_rfl
theorem shiftP_key (M L : Nat) (s o t : Bool) (k : Int) : evFn3 Try.prog Try.f51 400 [wR false M s, .int .i64 k] [.auto, .tst false, .res (wR o L t)] =
    some (conj [!decide (k < 0)], [QC Try.prog 62 [wR false M s, .int .i64 k] (wR o L t)], wR o L t) := by cases o <;> kernel_rfl
theorem shift_pc {A : Option Int} {k : Int} (h : WF A) (h0 : -9223372036854775808 ≤ k) (h1 : k ≤ 9223372036854775807) : PC Try.prog 51 [wv A, .int .i64 k] (wv (wshift A k)) := by
  cases A with
  | none => exact PC.of_ev3 mixed Try.func51 400 [] (shiftO_key k) (by simp [flat_wv]; rfl) rfl trivial (flat_wR _ _ _) rfl
  | some z =>
    have hz := h z rfl
    have hfl : [wv (some z), .int .i64 k].all flat = true := by simp [flat_wv]; rfl
    obtain ⟨o, L, t, e⟩ := wv_form (wshift (some z) k)
    by_cases hk : k < 0
    · have hs := shiftDown_pc hz hk h0
      rw [show clamp (z / 2 ^ (-k).toNat) = wshift (some z) k by simp only [wshift]; rw [decide_eq_true hk], e] at hs
      rw [e]
      exact PC.of_ev3 mixed Try.func51 400 _ (shiftN_key z.natAbs L (decide (z < 0)) o t k) hfl (by rw [conj_cons, conj_nil, decide_eq_true hk]; rfl) ⟨QC.of_pc enters_shiftDown hs, trivial⟩ (flat_wR _ _ _) rfl
    · have hs := shiftUp_pc hz (by omega) h1
      rw [show clamp (z * 2 ^ k.toNat) = wshift (some z) k by simp only [wshift]; rw [decide_eq_false hk], e] at hs
      rw [e]
      exact PC.of_ev3 mixed Try.func51 400 _ (shiftP_key z.natAbs L (decide (z < 0)) o t k) hfl (by rw [conj_cons, conj_nil, decide_eq_false hk]; rfl) ⟨QC.of_pc enters_shiftUp hs, trivial⟩ (flat_wR _ _ _) rfl
theorem enters_shift : ∀ us w, (callFunc 51 us).run Try.prog w = .ok (.enter 51 us) w := enters Try.func51 rfl (by kernel_rfl)
end Go.Proofs.Ytpbkkechkcalgaa.W
