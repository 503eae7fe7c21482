/-
  math/bits: two words by one whose first bit is set.
-/
import Derived.Test.YtjmdppnhpfdhdaaDivA
import Derived.Test.YtjmdppnhpfdhdaaWideLZ
import Derived.Test.YtjmdppnhpfdhdaaEvS
namespace Go.Ev
section
variable {P : Program}
def evM4 (P : Program) (c : Code) (fuel : Nat) (live : List Nat) (S : St) (ans : List Ans) : Option (Bool × Prop × Exit × St) :=
  match evM P c fuel live S ans with
  | some (a, b, x, y) => some (a, allP b, x, y)
  | none => none
/-- A round of a loop: the tests, the obligations, the end and the state are read off what is handed in. -/
theorem Tri.run (hm : P.follows .mixedOrders = true) {c : Code} (live : List Nat) (ans : List Ans) {S S' : St} {x : Exit} {X : Bool} {A : Prop} (hx : X = true) (ha : A) (e : evM4 P c 400 live S ans = some (X, A, x, S')) : Tri P c S (to x S') := by
  unfold evM4 at e
  split at e
  · rename_i a b y s he
    cases e
    exact Tri.of_ev hm 400 live ans he hx ha
  · cases e
theorem TriL.out {c : Code} {S S' : St} {x : Exit} (hx : x ≠ .normal) (h : Tri P c S (to x S')) : TriL P c S (to x S') :=
  TriL.step (h.mono fun e S1 ⟨h1, h2⟩ => by
    subst h1 h2
    cases e with
    | normal => exact absurd rfl hx
    | _ => exact ⟨rfl, rfl⟩)
theorem TriL.next {c : Code} {S S1 : St} {Q : Exit → St → Prop} (h : Tri P c S (to .normal S1)) (h' : TriL P c S1 Q) : TriL P c S Q :=
  TriL.step (h.mono fun e S2 ⟨h1, h2⟩ => by subst h1 h2; exact h')
end
end Go.Ev
namespace Go.Proofs.Ytjmdppnhpfdhdaa.W
open Go Go.Ev Go.Wide

def u (n : Nat) : Value := .int .u64 n
theorem wrap_mul (a b : Nat) : IntKind.u64.wrap ((a : Int) * (b : Int)) = ((a * b % 18446744073709551616 : Nat) : Int) := by
  rw [u64_wrap, ← Int.natCast_mul]
  omega
theorem wrap_add (a b : Nat) : IntKind.u64.wrap ((a : Int) + (b : Int)) = (((a + b) % 18446744073709551616 : Nat) : Int) := by
  rw [u64_wrap]
  omega
theorem wrap_of {n : Int} {m : Nat} (h : n = m) (hm : m < 18446744073709551616) : IntKind.u64.wrap n = m := by
  rw [u64_wrap, h]
  omega

def dL : List Nat := [2, 8, 9, 10, 11, 13, 14, 15, 16]
def dS (y y1 y0 h u1 u0 q r : Nat) : St := ⟨slots 135 [(2, u y), (8, .int .u64 0), (9, u y1), (10, u y0), (11, u h), (13, u u1), (14, u u0), (15, u q), (16, u r)], []⟩
def dL2 : List Nat := [2, 8, 9, 10, 14, 15, 16, 17, 18]
def dS2 (y y1 y0 u0 s v q r : Nat) : St := ⟨slots 135 [(2, u y), (8, .int .u64 0), (9, u y1), (10, u y0), (14, u u0), (15, u s), (16, u r), (17, u v), (18, u q)], []⟩

theorem d_end {y y1 y0 h u1 u0 q r m n k : Nat} (h1 : ¬ (q : Int) ≥ 4294967296) (h2 : IntKind.u64.wrap ((q : Int) * (y0 : Int)) = m) (h3 : IntKind.u64.wrap (4294967296 * (r : Int)) = n) (h4 : IntKind.u64.wrap ((n : Int) + (u1 : Int)) = k) (h5 : ¬ (m : Int) > k) :
    Tri Try.prog (loopN Try.f111 0) (dS y y1 y0 h u1 u0 q r) (to (.exit 0) (dS y y1 y0 h u1 u0 q r)) :=
  Tri.run mixed dL [.tst false, .at 2 (u m), .at 1 (u n), .at 1 (u k), .tst false] (ts5 (tF h1) (tT h2) (tT h3) (tT h4) (tF h5)) qs0 (by kernel_rfl)
theorem d_big {y y1 y0 h u1 u0 q r q' r' : Nat} (h1 : (q : Int) ≥ 4294967296) (h2 : IntKind.u64.wrap ((q : Int) - 1) = q') (h3 : IntKind.u64.wrap ((r : Int) + (y1 : Int)) = r') (h4 : (r' : Int) ≥ 4294967296) :
    Tri Try.prog (loopN Try.f111 0) (dS y y1 y0 h u1 u0 q r) (to (.exit 0) (dS y y1 y0 h u1 u0 q' r')) :=
  Tri.run mixed dL [.tst true, .auto, .at 1 (u q'), .at 3 (u r'), .tst true] (ts4 (tT h1) (tT h2) (tT h3) (tT h4)) qs0 (by kernel_rfl)
theorem d_big2 {y y1 y0 h u1 u0 q r q' r' : Nat} (h1 : (q : Int) ≥ 4294967296) (h2 : IntKind.u64.wrap ((q : Int) - 1) = q') (h3 : IntKind.u64.wrap ((r : Int) + (y1 : Int)) = r') (h4 : ¬ (r' : Int) ≥ 4294967296) :
    Tri Try.prog (loopN Try.f111 0) (dS y y1 y0 h u1 u0 q r) (to .normal (dS y y1 y0 h u1 u0 q' r')) :=
  Tri.run mixed dL [.tst true, .auto, .at 1 (u q'), .at 3 (u r'), .tst false] (ts4 (tT h1) (tT h2) (tT h3) (tF h4)) qs0 (by kernel_rfl)
theorem d_more {y y1 y0 h u1 u0 q r q' r' m n k : Nat} (h1 : ¬ (q : Int) ≥ 4294967296) (h2 : IntKind.u64.wrap ((q : Int) * (y0 : Int)) = m) (h3 : IntKind.u64.wrap (4294967296 * (r : Int)) = n) (h4 : IntKind.u64.wrap ((n : Int) + (u1 : Int)) = k) (h5 : (m : Int) > k)
    (g2 : IntKind.u64.wrap ((q : Int) - 1) = q') (g3 : IntKind.u64.wrap ((r : Int) + (y1 : Int)) = r') (g4 : (r' : Int) ≥ 4294967296) :
    Tri Try.prog (loopN Try.f111 0) (dS y y1 y0 h u1 u0 q r) (to (.exit 0) (dS y y1 y0 h u1 u0 q' r')) :=
  Tri.run mixed dL [.tst false, .at 2 (u m), .at 1 (u n), .at 1 (u k), .tst true, .at 1 (u q'), .at 3 (u r'), .tst true] (ts8 (tF h1) (tT h2) (tT h3) (tT h4) (tT h5) (tT g2) (tT g3) (tT g4)) qs0 (by kernel_rfl)
theorem d_more2 {y y1 y0 h u1 u0 q r q' r' m n k : Nat} (h1 : ¬ (q : Int) ≥ 4294967296) (h2 : IntKind.u64.wrap ((q : Int) * (y0 : Int)) = m) (h3 : IntKind.u64.wrap (4294967296 * (r : Int)) = n) (h4 : IntKind.u64.wrap ((n : Int) + (u1 : Int)) = k) (h5 : (m : Int) > k)
    (g2 : IntKind.u64.wrap ((q : Int) - 1) = q') (g3 : IntKind.u64.wrap ((r : Int) + (y1 : Int)) = r') (g4 : ¬ (r' : Int) ≥ 4294967296) :
    Tri Try.prog (loopN Try.f111 0) (dS y y1 y0 h u1 u0 q r) (to .normal (dS y y1 y0 h u1 u0 q' r')) :=
  Tri.run mixed dL [.tst false, .at 2 (u m), .at 1 (u n), .at 1 (u k), .tst true, .at 1 (u q'), .at 3 (u r'), .tst false] (ts8 (tF h1) (tT h2) (tT h3) (tT h4) (tT h5) (tT g2) (tT g3) (tF g4)) qs0 (by kernel_rfl)

theorem e_end {y y1 y0 u0 s v q r m n k : Nat} (h1 : ¬ (q : Int) ≥ 4294967296) (h2 : IntKind.u64.wrap ((q : Int) * (y0 : Int)) = m) (h3 : IntKind.u64.wrap (4294967296 * (r : Int)) = n) (h4 : IntKind.u64.wrap ((n : Int) + (u0 : Int)) = k) (h5 : ¬ (m : Int) > k) :
    Tri Try.prog (loopN Try.f111 1) (dS2 y y1 y0 u0 s v q r) (to (.exit 2) (dS2 y y1 y0 u0 s v q r)) :=
  Tri.run mixed dL2 [.tst false, .at 2 (u m), .at 1 (u n), .at 1 (u k), .tst false] (ts5 (tF h1) (tT h2) (tT h3) (tT h4) (tF h5)) qs0 (by kernel_rfl)
theorem e_big {y y1 y0 u0 s v q r q' r' : Nat} (h1 : (q : Int) ≥ 4294967296) (h2 : IntKind.u64.wrap ((q : Int) - 1) = q') (h3 : IntKind.u64.wrap ((r : Int) + (y1 : Int)) = r') (h4 : (r' : Int) ≥ 4294967296) :
    Tri Try.prog (loopN Try.f111 1) (dS2 y y1 y0 u0 s v q r) (to (.exit 2) (dS2 y y1 y0 u0 s v q' r')) :=
  Tri.run mixed dL2 [.tst true, .auto, .at 1 (u q'), .at 3 (u r'), .tst true] (ts4 (tT h1) (tT h2) (tT h3) (tT h4)) qs0 (by kernel_rfl)
theorem e_big2 {y y1 y0 u0 s v q r q' r' : Nat} (h1 : (q : Int) ≥ 4294967296) (h2 : IntKind.u64.wrap ((q : Int) - 1) = q') (h3 : IntKind.u64.wrap ((r : Int) + (y1 : Int)) = r') (h4 : ¬ (r' : Int) ≥ 4294967296) :
    Tri Try.prog (loopN Try.f111 1) (dS2 y y1 y0 u0 s v q r) (to .normal (dS2 y y1 y0 u0 s v q' r')) :=
  Tri.run mixed dL2 [.tst true, .auto, .at 1 (u q'), .at 3 (u r'), .tst false] (ts4 (tT h1) (tT h2) (tT h3) (tF h4)) qs0 (by kernel_rfl)
theorem e_more {y y1 y0 u0 s v q r q' r' m n k : Nat} (h1 : ¬ (q : Int) ≥ 4294967296) (h2 : IntKind.u64.wrap ((q : Int) * (y0 : Int)) = m) (h3 : IntKind.u64.wrap (4294967296 * (r : Int)) = n) (h4 : IntKind.u64.wrap ((n : Int) + (u0 : Int)) = k) (h5 : (m : Int) > k)
    (g2 : IntKind.u64.wrap ((q : Int) - 1) = q') (g3 : IntKind.u64.wrap ((r : Int) + (y1 : Int)) = r') (g4 : (r' : Int) ≥ 4294967296) :
    Tri Try.prog (loopN Try.f111 1) (dS2 y y1 y0 u0 s v q r) (to (.exit 2) (dS2 y y1 y0 u0 s v q' r')) :=
  Tri.run mixed dL2 [.tst false, .at 2 (u m), .at 1 (u n), .at 1 (u k), .tst true, .at 1 (u q'), .at 3 (u r'), .tst true] (ts8 (tF h1) (tT h2) (tT h3) (tT h4) (tT h5) (tT g2) (tT g3) (tT g4)) qs0 (by kernel_rfl)
theorem e_more2 {y y1 y0 u0 s v q r q' r' m n k : Nat} (h1 : ¬ (q : Int) ≥ 4294967296) (h2 : IntKind.u64.wrap ((q : Int) * (y0 : Int)) = m) (h3 : IntKind.u64.wrap (4294967296 * (r : Int)) = n) (h4 : IntKind.u64.wrap ((n : Int) + (u0 : Int)) = k) (h5 : (m : Int) > k)
    (g2 : IntKind.u64.wrap ((q : Int) - 1) = q') (g3 : IntKind.u64.wrap ((r : Int) + (y1 : Int)) = r') (g4 : ¬ (r' : Int) ≥ 4294967296) :
    Tri Try.prog (loopN Try.f111 1) (dS2 y y1 y0 u0 s v q r) (to .normal (dS2 y y1 y0 u0 s v q' r')) :=
  Tri.run mixed dL2 [.tst false, .at 2 (u m), .at 1 (u n), .at 1 (u k), .tst true, .at 1 (u q'), .at 3 (u r'), .tst false] (ts8 (tF h1) (tT h2) (tT h3) (tT h4) (tT h5) (tT g2) (tT g3) (tF g4)) qs0 (by kernel_rfl)

/-- Either loop: it ends at the quotient. -/
theorem half_loop {c : Code} {ex : Exit} {st : Nat → Nat → St} {y a b : Nat} (hex : ex ≠ .normal) (hy : 9223372036854775808 ≤ y) (hb : b < 4294967296) (hQ : (a * 4294967296 + b) / y < 4294967296)
    (hend : ∀ q r m n k : Nat, ¬ (q : Int) ≥ 4294967296 → IntKind.u64.wrap ((q : Int) * ((y % 4294967296 : Nat) : Int)) = m → IntKind.u64.wrap (4294967296 * (r : Int)) = n → IntKind.u64.wrap ((n : Int) + (b : Int)) = k → ¬ (m : Int) > k → Tri Try.prog c (st q r) (to ex (st q r)))
    (hbig : ∀ q r q' r' : Nat, (q : Int) ≥ 4294967296 → IntKind.u64.wrap ((q : Int) - 1) = q' → IntKind.u64.wrap ((r : Int) + ((y / 4294967296 : Nat) : Int)) = r' → (r' : Int) ≥ 4294967296 → Tri Try.prog c (st q r) (to ex (st q' r')))
    (hbig2 : ∀ q r q' r' : Nat, (q : Int) ≥ 4294967296 → IntKind.u64.wrap ((q : Int) - 1) = q' → IntKind.u64.wrap ((r : Int) + ((y / 4294967296 : Nat) : Int)) = r' → ¬ (r' : Int) ≥ 4294967296 → Tri Try.prog c (st q r) (to .normal (st q' r')))
    (hmore : ∀ q r q' r' m n k : Nat, ¬ (q : Int) ≥ 4294967296 → IntKind.u64.wrap ((q : Int) * ((y % 4294967296 : Nat) : Int)) = m → IntKind.u64.wrap (4294967296 * (r : Int)) = n → IntKind.u64.wrap ((n : Int) + (b : Int)) = k → (m : Int) > k →
      IntKind.u64.wrap ((q : Int) - 1) = q' → IntKind.u64.wrap ((r : Int) + ((y / 4294967296 : Nat) : Int)) = r' → (r' : Int) ≥ 4294967296 → Tri Try.prog c (st q r) (to ex (st q' r')))
    (hmore2 : ∀ q r q' r' m n k : Nat, ¬ (q : Int) ≥ 4294967296 → IntKind.u64.wrap ((q : Int) * ((y % 4294967296 : Nat) : Int)) = m → IntKind.u64.wrap (4294967296 * (r : Int)) = n → IntKind.u64.wrap ((n : Int) + (b : Int)) = k → (m : Int) > k →
      IntKind.u64.wrap ((q : Int) - 1) = q' → IntKind.u64.wrap ((r : Int) + ((y / 4294967296 : Nat) : Int)) = r' → ¬ (r' : Int) ≥ 4294967296 → Tri Try.prog c (st q r) (to .normal (st q' r')))
    (hy2 : y < 18446744073709551616) :
    ∀ q r : Nat, q * (y / 4294967296) + r = a → r < 4294967296 → (a * 4294967296 + b) / y ≤ q → q ≤ 4294967297 → TriL Try.prog c (st q r) (to ex (st ((a * 4294967296 + b) / y) (a - (a * 4294967296 + b) / y * (y / 4294967296)))) := by
  intro q
  induction q with
  | zero =>
    intro r hq hr hge hle
    have e0 : (a * 4294967296 + b) / y = 0 := Nat.le_zero.1 hge
    rw [e0]
    have e1 : a - 0 * (y / 4294967296) = r := by omega
    rw [e1]
    exact TriL.out hex (hend 0 r 0 (4294967296 * r) (4294967296 * r + b) (by omega) (wrap_of (by omega) (by omega)) (wrap_of (by omega) (by omega)) (wrap_of (by omega) (by omega)) (by omega))
  | succ q ih =>
    intro r hq hr hge hle
    have hy0 : y % 4294967296 < 4294967296 := Nat.mod_lt _ (by omega)
    have hm : q + 1 < 4294967296 → (q + 1) * (y % 4294967296) < 18446744073709551616 := fun h => by
      have := Nat.mul_lt_mul'' h hy0
      omega
    have w3 : IntKind.u64.wrap (4294967296 * (r : Int)) = ((4294967296 * r : Nat) : Int) := wrap_of (by omega) (by omega)
    have w4 : IntKind.u64.wrap (((4294967296 * r : Nat) : Int) + (b : Int)) = ((4294967296 * r + b : Nat) : Int) := wrap_of (by omega) (by omega)
    have g2 : IntKind.u64.wrap (((q + 1 : Nat) : Int) - 1) = (q : Int) := wrap_of (by omega) (by omega)
    have g3 : IntKind.u64.wrap ((r : Int) + ((y / 4294967296 : Nat) : Int)) = ((r + y / 4294967296 : Nat) : Int) := wrap_of (by omega) (by omega)
    have htest := half_test (b := b) hy hq
    by_cases hlt : (a * 4294967296 + b) / y < q + 1
    · have hstep := half_step hq (by omega)
      rw [Nat.add_sub_cancel] at hstep
      by_cases hbr : r + y / 4294967296 ≥ 4294967296
      · have hQ' := half_break (b := b) hy hstep hbr (by omega)
        have e : (a * 4294967296 + b) / y = q := by omega
        rw [e]
        have e1 : a - q * (y / 4294967296) = r + y / 4294967296 := by omega
        rw [e1]
        by_cases hb32 : q + 1 ≥ 4294967296
        · exact TriL.out hex (hbig _ _ _ _ (by omega) g2 g3 (by omega))
        · have w2 : IntKind.u64.wrap (((q + 1 : Nat) : Int) * ((y % 4294967296 : Nat) : Int)) = (((q + 1) * (y % 4294967296) : Nat) : Int) := by
            rw [wrap_mul, Nat.mod_eq_of_lt (hm (by omega))]
          have h5 := htest.2 hlt
          exact TriL.out hex (hmore _ _ _ _ _ _ _ (by omega) w2 w3 w4 (by omega) g2 g3 (by omega))
      · have hnext := ih (r + y / 4294967296) hstep (by omega) (by omega) (by omega)
        by_cases hb32 : q + 1 ≥ 4294967296
        · exact TriL.next (hbig2 _ _ _ _ (by omega) g2 g3 (by omega)) hnext
        · have w2 : IntKind.u64.wrap (((q + 1 : Nat) : Int) * ((y % 4294967296 : Nat) : Int)) = (((q + 1) * (y % 4294967296) : Nat) : Int) := by
            rw [wrap_mul, Nat.mod_eq_of_lt (hm (by omega))]
          have h5 := htest.2 hlt
          exact TriL.next (hmore2 _ _ _ _ _ _ _ (by omega) w2 w3 w4 (by omega) g2 g3 (by omega)) hnext
    · have e : (a * 4294967296 + b) / y = q + 1 := by omega
      rw [e]
      have e1 : a - (q + 1) * (y / 4294967296) = r := by omega
      rw [e1]
      have w2 : IntKind.u64.wrap (((q + 1 : Nat) : Int) * ((y % 4294967296 : Nat) : Int)) = (((q + 1) * (y % 4294967296) : Nat) : Int) := by
        rw [wrap_mul, Nat.mod_eq_of_lt (hm (by omega))]
      have h5 : ¬ (q + 1) * (y % 4294967296) > 4294967296 * r + b := fun h => hlt (htest.1 h)
      exact TriL.out hex (hend _ _ _ _ _ (by omega) w2 w3 w4 (by omega))
theorem enters_lz64 : ∀ us w, (callFunc 102 us).run Try.prog w = .ok (.enter 102 us) w := enters Try.func102 rfl (by kernel_rfl)
theorem tsC {b : Bool} {l : List Bool} (h : b = true) (t : conj l = true) : conj (b :: l) = true := by rw [conj_cons, h, t]; rfl
theorem whole_aux {U y Q R : Nat} (e : U = y * Q + R) (h3 : R < y) : U / y = Q ∧ U % y = R := by
  subst e
  rw [Nat.mul_add_div (by omega), Nat.mul_add_mod, Nat.div_eq_of_lt h3, Nat.mod_eq_of_lt h3]
  exact ⟨rfl, rfl⟩
theorem half_whole {hi lo y Q1 R1 Q0 R0 : Nat} (h1 : Q1 * y + R1 = hi * 4294967296 + lo / 4294967296) (h2 : Q0 * y + R0 = R1 * 4294967296 + lo % 4294967296) (h3 : R0 < y) :
    (hi * 18446744073709551616 + lo) / y = Q1 * 4294967296 + Q0 ∧ (hi * 18446744073709551616 + lo) % y = R0 := by
  refine whole_aux ?_ h3
  have e1 : y * (Q1 * 4294967296 + Q0) = Q1 * y * 4294967296 + Q0 * y := by rw [Nat.mul_add, Nat.mul_comm y Q0, ← Nat.mul_assoc, Nat.mul_comm y Q1]
  omega
def u64v (n : Int) : Value := .int .u64 n
theorem div64_run {hi lo y y1 y0 u1 u0 q m r A B C D E F G X Q1 R1 Q0 R0 q2 m2 r2 z1 z2 : Nat}
    (t1 : ¬ (y : Int) = 0) (t2 : ¬ (y : Int) ≤ (hi : Int)) (t3 : ¬ (hi : Int) = 0) (t4 : shlI (y : Int) 0 = y) (t5 : shrI (y : Int) 32 = y1) (t6 : lo32 (y : Int) = y0) (t7 : shlI (hi : Int) 0 = hi) (t8 : shrI (lo : Int) 64 = ((0 : Nat) : Int)) (t9 : orI (hi : Int) ((0 : Nat) : Int) = hi)
    (t10 : shlI (lo : Int) 0 = lo) (t11 : shrI (lo : Int) 32 = u1) (t12 : lo32 (lo : Int) = u0) (t13 : ¬ (y1 : Int) = 0) (t14 : IntKind.u64.wrap ((hi : Int).tdiv y1) = q) (t15 : IntKind.u64.wrap ((q : Int) * (y1 : Int)) = m) (t16 : IntKind.u64.wrap ((hi : Int) - (m : Int)) = r)
    (t17 : u64v (IntKind.u64.wrap ((hi : Int) * 4294967296)) = u A) (t18 : IntKind.u64.wrap ((A : Int) + (u1 : Int)) = B) (t19 : IntKind.u64.wrap ((Q1 : Int) * (y : Int)) = C) (t20 : IntKind.u64.wrap ((B : Int) - (C : Int)) = R1)
    (t22 : IntKind.u64.wrap ((R1 : Int).tdiv y1) = q2) (t23 : IntKind.u64.wrap ((q2 : Int) * (y1 : Int)) = m2) (t24 : IntKind.u64.wrap ((R1 : Int) - (m2 : Int)) = r2)
    (t25 : u64v (IntKind.u64.wrap ((Q1 : Int) * 4294967296)) = u D) (t26 : IntKind.u64.wrap ((D : Int) + (Q0 : Int)) = X) (t27 : u64v (IntKind.u64.wrap ((R1 : Int) * 4294967296)) = u E) (t28 : IntKind.u64.wrap ((E : Int) + (u0 : Int)) = F) (t29 : IntKind.u64.wrap ((Q0 : Int) * (y : Int)) = G) (t30 : IntKind.u64.wrap ((F : Int) - (G : Int)) = R0) (t31 : shrI (R0 : Int) 0 = R0)
    (hlz : QC Try.prog 102 [u y] (.int .i64 0))
    (l1 : TriL Try.prog (loopN Try.f111 0) (dS y y1 y0 hi u1 u0 q r) (to (.exit 0) (dS y y1 y0 hi u1 u0 Q1 z1)))
    (l2 : TriL Try.prog (loopN Try.f111 1) (dS2 y y1 y0 u0 Q1 R1 q2 r2) (to (.exit 2) (dS2 y y1 y0 u0 Q1 R1 Q0 z2))) :
    PC Try.prog 111 [u hi, u lo, u y] (.tuple #[u X, u R0]) :=
  PC.run mixed Try.func111 [.tst false, .tst false, .tst false, .res (.int .i64 0), .at 5 (u y), .at 2 (u y1), .at 2 (u y0), .at 3 (u hi), .at 3 (u 0), .at 0 (u hi), .at 3 (u lo), .at 2 (u u1), .at 2 (u u0), .at 3 (u q), .at 4 (u m), .at 0 (u r),
      .cut dL (.exit 0) (dS y y1 y0 hi u1 u0 Q1 z1), .is 1 (u A), .at 1 (u B), .at 2 (u C), .at 0 (u R1), .at 3 (u q2), .at 4 (u m2), .at 0 (u r2), .cut dL2 (.exit 2) (dS2 y y1 y0 u0 Q1 R1 Q0 z2), .is 1 (u D), .at 1 (u X), .is 1 (u E), .at 1 (u F), .at 2 (u G), .at 0 (u R0), .at 1 (u R0)]
    rfl
    (tsC (tF t1) <| tsC (tF t2) <| tsC (tF t3) <| tsC (tT t4) <| tsC (tT t5) <| tsC (tT t6) <| tsC (tT t7) <| tsC (tT t8) <| tsC (tT t9) <| tsC (tT t10) <| tsC (tT t11) <| tsC (tT t12) <|
      tsC (tF t13) <| tsC (tT t14) <| tsC (tT t15) <| tsC (tT t16) <|
      tsC (tT t18) <| tsC (tT t19) <| tsC (tT t20) <| tsC (tF t13) <| tsC (tT t22) <| tsC (tT t23) <| tsC (tT t24) <|
      tsC (tT t26) <| tsC (tT t28) <| tsC (tT t29) <| tsC (tT t30) <| tsC (tT t31) ts0)
    (qs6 hlz l1 t17 l2 t25 t27) rfl rfl (by kernel_rfl)
theorem wrap_lit (x : Nat) : IntKind.u64.wrap ((x : Int) * 4294967296) = ((x * 4294967296 % 18446744073709551616 : Nat) : Int) := by rw [u64_wrap]; omega
theorem sub_back {T X R M : Nat} (h : X + R = T) (hR : R < 18446744073709551616) (hM : M = T % 18446744073709551616) : IntKind.u64.wrap ((M : Int) - ((X % 18446744073709551616 : Nat) : Int)) = (R : Int) := by
  rw [u64_wrap]
  omega
theorem div64_big {hi lo y Q1 R1 Q0 R0 : Nat} (hy : 9223372036854775808 ≤ y) (hy2 : y < 18446744073709551616) (hh : hi < y) (hl : lo < 18446744073709551616) (h0 : hi ≠ 0)
    (hT : Q1 * y + R1 = hi * 4294967296 + lo / 4294967296) (hT2 : Q0 * y + R0 = R1 * 4294967296 + lo % 4294967296) (hR1 : R1 < y) (hR0 : R0 < y) (hQ1 : Q1 < 4294967296) (hQ0 : Q0 < 4294967296)
    (l1 : TriL Try.prog (loopN Try.f111 0) (dS y (y / 4294967296) (y % 4294967296) hi (lo / 4294967296) (lo % 4294967296) (hi / (y / 4294967296)) (hi % (y / 4294967296))) (to (.exit 0) (dS y (y / 4294967296) (y % 4294967296) hi (lo / 4294967296) (lo % 4294967296) Q1 (hi - Q1 * (y / 4294967296)))))
    (l2 : TriL Try.prog (loopN Try.f111 1) (dS2 y (y / 4294967296) (y % 4294967296) (lo % 4294967296) Q1 R1 (R1 / (y / 4294967296)) (R1 % (y / 4294967296))) (to (.exit 2) (dS2 y (y / 4294967296) (y % 4294967296) (lo % 4294967296) Q1 R1 Q0 (R1 - Q0 * (y / 4294967296))))) :
    PC Try.prog 111 [u hi, u lo, u y] (.tuple #[u (Q1 * 4294967296 + Q0), u R0]) := by
  have hlz : QC Try.prog 102 [u y] (.int .i64 0) := by
    have h := lz64_pc hy2
    have e : bitLen y = 64 := by
      have h1 : bitLen y ≤ 64 := bitLen_lt_iff.2 hy2
      have h2 : ¬ bitLen y ≤ 63 := fun h => by
        have := bitLen_lt_iff.1 h
        have e : (2 : Nat) ^ 63 = 9223372036854775808 := by decide
        omega
      omega
    rw [e] at h
    exact QC.of_pc enters_lz64 h
  have sh0 : ∀ x : Nat, x < 18446744073709551616 → shlI x 0 = x := fun x hx => by
    have h := shlI_eq x 0 (by omega)
    rw [Nat.pow_zero, Nat.mul_one, Nat.mod_eq_of_lt hx] at h
    exact h
  have sr32 : ∀ x : Nat, shrI x 32 = ((x / 4294967296 : Nat) : Int) := fun x => shrI_eq x 32 (by omega)
  have sr64 : shrI lo 64 = ((0 : Nat) : Int) := by
    have h := shrI_eq lo 64 (by omega)
    rw [Nat.div_eq_of_lt (show lo < 2 ^ 64 from hl)] at h
    exact h
  have sr0 : shrI R0 0 = (R0 : Int) := by
    have h := shrI_eq R0 0 (by omega)
    rw [Nat.pow_zero, Nat.div_one] at h
    exact h
  have l32 : ∀ x : Nat, x < 18446744073709551616 → lo32 x = ((x % 4294967296 : Nat) : Int) := fun x hx => by rw [lo32_eq (by omega) (by omega)]; omega
  have or0 : orI (hi : Int) ((0 : Nat) : Int) = (hi : Int) := by rw [orI_eq (by omega) (by omega), Nat.or_zero]
  have qd : ∀ x h : Nat, x < 18446744073709551616 → IntKind.u64.wrap ((x : Int).tdiv h) = ((x / h : Nat) : Int) := fun x h hx => by
    rw [Int.tdiv_eq_ediv_of_nonneg (by omega), ← Int.natCast_ediv]
    exact wrap_of rfl (Nat.lt_of_le_of_lt (Nat.div_le_self _ _) hx)
  have qm : ∀ x h : Nat, x < 18446744073709551616 → IntKind.u64.wrap (((x / h : Nat) : Int) * h) = ((x / h * h : Nat) : Int) := fun x h hx => by
    rw [wrap_mul, Nat.mod_eq_of_lt (Nat.lt_of_le_of_lt (Nat.div_mul_le_self x h) hx)]
  have qr : ∀ x h : Nat, x < 18446744073709551616 → IntKind.u64.wrap ((x : Int) - ((x / h * h : Nat) : Int)) = ((x % h : Nat) : Int) := fun x h hx => by
    have e := Nat.div_add_mod x h
    rw [Nat.mul_comm] at e
    have := Nat.mod_le x h
    exact wrap_of (by omega) (by omega)
  exact div64_run (by omega) (by omega) (by omega) (sh0 y hy2) (sr32 y) (l32 y hy2) (sh0 hi (by omega)) sr64 or0 (sh0 lo hl) (sr32 lo) (l32 lo hl) (by omega) (qd hi _ (by omega)) (qm hi _ (by omega)) (qr hi _ (by omega))
    (congrArg u64v (wrap_lit hi)) (wrap_add _ _) (wrap_mul Q1 y) (sub_back hT (by omega) (by omega)) (qd R1 _ (by omega)) (qm R1 _ (by omega)) (qr R1 _ (by omega))
    (congrArg u64v (wrap_of (m := Q1 * 4294967296) (by omega) (by omega))) (wrap_of (m := Q1 * 4294967296 + Q0) (by omega) (by omega)) (congrArg u64v (wrap_lit R1)) (wrap_add _ _) (wrap_mul Q0 y) (sub_back hT2 (by omega) (by omega)) sr0 hlz l1 l2
theorem div64_pc {hi lo y : Nat} (hy : 9223372036854775808 ≤ y) (hy2 : y < 18446744073709551616) (hh : hi < y) (hl : lo < 18446744073709551616) :
    PC Try.prog 111 [u hi, u lo, u y] (.tuple #[u ((hi * 18446744073709551616 + lo) / y), u ((hi * 18446744073709551616 + lo) % y)]) := by
  by_cases h0 : hi = 0
  · subst h0
    rw [Nat.zero_mul, Nat.zero_add]
    have e1 : IntKind.u64.wrap ((lo : Int).tdiv y) = ((lo / y : Nat) : Int) := by
      rw [Int.tdiv_eq_ediv_of_nonneg (by omega), ← Int.natCast_ediv]
      exact wrap_of rfl (Nat.lt_of_le_of_lt (Nat.div_le_self _ _) hl)
    have e2 : (lo : Int).tmod y = ((lo % y : Nat) : Int) := by
      rw [Int.tmod_eq_emod_of_nonneg (by omega), ← Int.natCast_emod]
    exact PC.run mixed Try.func111 [.tst false, .tst false, .tst true, .at 2 (u (lo / y)), .at 2 (u (lo % y))] rfl (ts7 (tF (p := (y : Int) = 0) (by omega)) (tF (p := (y : Int) ≤ ((0 : Nat) : Int)) (by omega)) (tT (p := ((0 : Nat) : Int) = 0) (by omega))
      (tF (p := (y : Int) = 0) (by omega)) (tT e1) (tF (p := (y : Int) = 0) (by omega)) (tT e2)) qs0 rfl rfl (by kernel_rfl)
  · have hU1 : lo / 4294967296 < 4294967296 := by omega
    have hU0 : lo % 4294967296 < 4294967296 := by omega
    obtain ⟨a1, a2, a3, a4, a5⟩ := half_start hy hy2 hh hU1
    have hlt2 : (hi * 4294967296 + lo / 4294967296) % y < y := Nat.mod_lt _ (by omega)
    obtain ⟨b1, b2, b3, b4, b5⟩ := half_start hy hy2 hlt2 hU0
    have hb := half_both (hi := hi) (lo := lo) (y := y) (by omega)
    have hl1 := half_loop (c := loopN Try.f111 0) (ex := .exit 0) (st := fun q r => dS y (y / 4294967296) (y % 4294967296) hi (lo / 4294967296) (lo % 4294967296) q r) (y := y) (a := hi) (b := lo / 4294967296) (by simp) hy hU1 a3
      (fun q r m n k => d_end) (fun q r q' r' => d_big) (fun q r q' r' => d_big2) (fun q r q' r' m n k => d_more) (fun q r q' r' m n k => d_more2) hy2 _ _ a4 a5 a1 a2
    have hl2 := fun s => half_loop (c := loopN Try.f111 1) (ex := .exit 2) (st := fun q r => dS2 y (y / 4294967296) (y % 4294967296) (lo % 4294967296) s ((hi * 4294967296 + lo / 4294967296) % y) q r) (y := y) (a := (hi * 4294967296 + lo / 4294967296) % y) (b := lo % 4294967296) (by simp) hy hU0 b3
      (fun q r m n k => e_end) (fun q r q' r' => e_big) (fun q r q' r' => e_big2) (fun q r q' r' m n k => e_more) (fun q r q' r' m n k => e_more2) hy2 _ _ b4 b5 b1 b2
    have hT := Nat.div_add_mod (hi * 4294967296 + lo / 4294967296) y
    have hT2 := Nat.div_add_mod ((hi * 4294967296 + lo / 4294967296) % y * 4294967296 + lo % 4294967296) y
    have hlt3 : ((hi * 4294967296 + lo / 4294967296) % y * 4294967296 + lo % 4294967296) % y < y := Nat.mod_lt _ (by omega)
    rw [Nat.mul_comm y] at hT hT2
    obtain ⟨e1, e2⟩ := half_whole hT hT2 hlt3
    rw [e1, e2]
    exact div64_big hy hy2 hh hl h0 hT hT2 hlt2 hlt3 a3 b3 hl1 (hl2 _)
theorem enters_div64 : ∀ us w, (callFunc 111 us).run Try.prog w = .ok (.enter 111 us) w := enters Try.func111 rfl (by kernel_rfl)
end Go.Proofs.Ytjmdppnhpfdhdaa.W
