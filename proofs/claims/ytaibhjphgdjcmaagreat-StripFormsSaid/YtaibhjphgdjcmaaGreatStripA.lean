/-
  Package strip: the law's awake, reckoned.
-/
import Derived.Test.YtaibhjphgdjcmaaGreatStrip
namespace Go.Proofs.YtaibhjphgdjcmaaGreat.W
open Go Go.Ev Go.Wide

/-- Roots by halving. -/
def hlv : Nat → Nat → Nat → Nat
  | 0, _, r => r
  | k + 1, n, r => if (r + 2 ^ k) * (r + 2 ^ k) ≤ n then hlv k n (r + 2 ^ k) else hlv k n r
theorem hlv_spec : ∀ k n r, r * r ≤ n → n < (r + 2 ^ k) * (r + 2 ^ k) → hlv k n r * hlv k n r ≤ n ∧ n < (hlv k n r + 1) * (hlv k n r + 1)
  | 0, n, r, h1, h2 => ⟨h1, h2⟩
  | k + 1, n, r, h1, h2 => by
    unfold hlv
    split
    · rename_i h
      exact hlv_spec k n _ h (by rw [Nat.add_assoc, ← Nat.two_mul, Nat.mul_comm 2, ← Nat.pow_succ]; exact h2)
    · rename_i h
      exact hlv_spec k n _ h1 (by omega)
def isqF (n : Nat) : Nat := hlv (n.log2 / 2 + 1) n 0
theorem isq_fast : isq = isqF := by
  funext n
  have h := Nat.lt_log2_self (n := n)
  have h2 : 2 ^ (n.log2 + 1) ≤ (0 + 2 ^ (n.log2 / 2 + 1)) * (0 + 2 ^ (n.log2 / 2 + 1)) := by
    rw [Nat.zero_add, ← Nat.pow_add]
    exact Nat.pow_le_pow_right (by omega) (by omega)
  have hs := hlv_spec (n.log2 / 2 + 1) n 0 (by omega) (by omega)
  exact isq_eq hs.1 hs.2

def csqF (n : Nat) : Nat := if isqF n * isqF n < n then isqF n + 1 else isqF n
theorem csq_fast (n : Nat) : csq n = csqF n := by unfold csq csqF; rw [isq_fast]
def upF (n : Int) : Int := (csqF n.toNat : Nat)
theorem up_fast (n : Int) : upI n = upF n := by unfold upI upF; rw [csq_fast]
def gsumF (x y a b d x' y' a' b' d' : Int) : Value := match mayL x y a b d && mayL x' y' a' b' d' with
  | true => gsumR x y a b d x' y' a' b' d' (upF (a + d)) (upF (a' + d'))
  | false => ellT 0 0 0 0 0 1
theorem gsum_fast (x y a b d x' y' a' b' d' : Int) : gsumV x y a b d x' y' a' b' d' = gsumF x y a b d x' y' a' b' d' := by unfold gsumV gsumF; rw [up_fast, up_fast]; rfl
def gballF (x y a b d r : Int) : Value := match mayL x y a b d with
  | true => if r = 0 then ellT x y a b d 0 else match mayR r with
    | true => gsumF x y a b d 0 0 (r * r) 0 (r * r)
    | false => ellT 0 0 0 0 0 1
  | false => ellT 0 0 0 0 0 1
theorem gball_fast (x y a b d r : Int) : gballV x y a b d r = gballF x y a b d r := by unfold gballV gballF; rw [gsum_fast]; rfl
def ellWF (X Y A B D : Int) : Value := match mayL X Y (A + 1) B (D + 1) with | true => gballF X Y (A + 1) B (D + 1) 1 | false => ellT 0 0 0 0 0 2
theorem ellW_fast (X Y A B D : Int) : ellW X Y A B D = ellWF X Y A B D := by unfold ellW ellWF; rw [gball_fast]; rfl
def ellIK (a b d u v k s : Int) : Value :=
  if a ≤ 0 then ellT 0 0 0 0 0 1 else if k ≤ 0 then ellT 0 0 0 0 0 1 else if s < 0 then ellT 0 0 0 0 0 3 else
    ellWF (nearI (d * u - b * v) k) (nearI (a * v - b * u) k) (cdiv (s * d) (k * k)) ((-(s * b)).fdiv (k * k)) (cdiv (s * a) (k * k))
theorem ellI_fast (a b d u v z n : Int) : ellI a b d u v z n = ellIK a b d u v (detI a b d) (sizI a b d u v z n (detI a b d)) := by unfold ellI ellIK; rw [ellW_fast]
def ellQF (i : Inq) : Value := ellIK i.a i.b i.d i.u i.v (detI i.a i.b i.d) (sizI i.a i.b i.d i.u i.v i.z i.n (detI i.a i.b i.d))
theorem ellQ_fast (i : Inq) : ellQ i = ellQF i := ellI_fast _ _ _ _ _ _ _
def mkFF (e f : El) (w : Int) : Mk := toMk (ellQF (mixQ (ofQ e.x e.y e.a e.b e.d) (ofQ f.x f.y f.a f.b f.d) w))
def mkCF (e : El) (s : Sp) (w : Int) : Mk := toMk (ellQF (mixQ (ofQ e.x e.y e.a e.b e.d) (osQ s.ox s.oy s.hx s.hy s.lo s.hi) w))
theorem mkF_fast {e f : El} (h1 : e.may = true) (h2 : f.may = true) : mkF e f = mkFF e f := by
  funext w
  unfold mkF fuseV mkFF
  rw [show mayL e.x e.y e.a e.b e.d = true from h1, show mayL f.x f.y f.a f.b f.d = true from h2, ← ellQ_fast]
  rfl
theorem mkC_fast {e : El} {s : Sp} (h1 : e.may = true) (h2 : s.may = true) : mkC e s = mkCF e s := by
  funext w
  unfold mkC cutV mkCF
  rw [show mayL e.x e.y e.a e.b e.d = true from h1, show mayS s.ox s.oy s.hx s.hy s.lo s.hi = true from h2, ← ellQ_fast]
  rfl
theorem gFuse_fast {e f g : El} (h1 : e.may = true) (h2 : f.may = true) (h3 : empM (mkFF e f) (gfin (oM (mkFF e f))).2.2 = false) (h4 : lesser (smE (mkFF e f) e) f = g) : gFuse e f = ⟨g, 0⟩ := by
  unfold gFuse
  rw [h1, h2, mkF_fast h1 h2, h3, h4]
  rfl
theorem gCut_fast {e g : El} {s : Sp} (h1 : e.may = true) (h2 : s.may = true) (h3 : empM (mkCF e s) (gfin (oM (mkCF e s))).2.2 = false) (h4 : smE (mkCF e s) e = g) : gCut e s = ⟨g, 0⟩ := by
  unfold gCut smV
  rw [h1, h2, mkC_fast h1 h2, h3, h4]
  rfl
def aE : El := ⟨100, 0, 2500, 0, 2500⟩
def aN : El := ⟨0, 0, 1, 0, 1⟩
def aB : El := ⟨0, 0, 8836, 0, 8836⟩
def aF : El := ⟨82, 0, 2268, 0, 2268⟩
def aS : Sp := ⟨0, 0, 82, 0, 6067, 7708⟩
def aU : El := ⟨84, 0, 595, 0, 2783⟩
theorem awake8_f : gFuse aE aB = ⟨aF, 0⟩ := gFuse_fast (by kernel_rfl) (by kernel_rfl) (by kernel_rfl) (by kernel_rfl)
theorem awake8_c : gCut aF aS = ⟨aU, 0⟩ := gCut_fast (by kernel_rfl) (by kernel_rfl) (by kernel_rfl) (by kernel_rfl)
/-! ### A ring, reckoned -/
def alF (e : El) (p q : Int) : Int := (csqF (quadI e.a e.b e.d p q).natAbs : Nat)
theorem al_fast (e : El) (p q : Int) : e.al p q = alF e p q := by unfold El.al alF; rw [csq_fast]
def radF (e : El) : Int := upF (trI e.x e.y e.a e.b e.d)
theorem rad_fast (e : El) : e.rad = radF e := up_fast _
def dnF (z : Int) : Int := if z < 0 then 0 else (isqF z.natAbs : Nat)
theorem dn_fast (z : Int) : dnI z = dnF z := by unfold dnI dnF; rw [isq_fast]
def ringLF (h w k m : Int) : Int := if h - w ≤ 0 then h - w else max (h - w) (dnF (h * (m * m) - k * k))
def ringUF (h w R : Int) : Int := min (h + w) (csqF (h * (R * R)).natAbs : Nat)
def rgLF (e n : El) (lo : Int) : Int := ringLF (sqH (rgX e n) (rgY e n)) (alF e (rgX e n) (rgY e n)) (alF e (-rgY e n) (rgX e n)) (max (lo - radF n) 0)
def rgUF (e n : El) (hi : Int) : Int := ringUF (sqH (rgX e n) (rgY e n)) (alF e (rgX e n) (rgY e n)) (hi + radF n)
theorem rgL_fast (e n : El) (lo : Int) : rgL e n lo = rgLF e n lo := by unfold rgL rgLF ringL ringLF; rw [al_fast, al_fast, rad_fast, dn_fast]
theorem rgU_fast (e n : El) (hi : Int) : rgU e n hi = rgUF e n hi := by unfold rgU rgUF ringU ringUF; rw [al_fast, rad_fast, csq_fast]
theorem awake8_l : rgL aF aN 90 = 6067 := (rgL_fast _ _ _).trans (by kernel_rfl)
theorem awake8_u : rgU aF aN 92 = 7708 := (rgU_fast _ _ _).trans (by kernel_rfl)
theorem awake8_r : aN.rad = 2 := (rad_fast _).trans (by kernel_rfl)
theorem awake8_n : nearV aE aN 92 = ⟨aF, 0⟩ := by
  have h : acqV aN 92 = ⟨aB, 0⟩ := by
    unfold acqV
    rw [awake8_r]
    kernel_rfl
  unfold nearV
  rw [h]
  exact awake8_f
theorem inRing_cut {e n : El} {lo hi : Int} {s : Sp} (h1 : measB e n lo hi = true) (h2 : isO (rgX e n) (rgY e n) = false) (h3 : ¬ rgU e n hi < rgL e n lo) (h4 : rgS e n lo hi = s) : inRing e n lo hi = gCut e s := by
  unfold inRing
  rw [h1, h2, decide_eq_false h3, h4]
theorem upd_near {e n f : El} {lo hi : Int} (h1 : measB e n lo hi = true) (h2 : nearV e n hi = ⟨f, 0⟩) : updV e n lo hi = inRing f n lo hi := by
  unfold updV
  rw [h1, h2]
  rfl
theorem awake8_s : rgS aF aN 90 92 = aS := by
  unfold rgS
  rw [awake8_l, awake8_u]
  rfl
theorem awake8_v : updV aE aN 90 92 = ⟨aU, 0⟩ :=
  (upd_near (by kernel_rfl) awake8_n).trans ((inRing_cut (by kernel_rfl) (by kernel_rfl) (by rw [awake8_l, awake8_u]; decide) awake8_s).trans awake8_c)
theorem aE_ok : aE.Ok := ⟨.lit, .lit, .lit⟩
theorem aN_ok : aN.Ok := ⟨.lit, .lit, .lit⟩
theorem enters_awake8 : ∀ us w, (callFunc 14 us).run Tryz.prog w = .ok (.enter 14 us) w := enters Tryz.func14 rfl (by kernel_rfl)
theorem awake8_pc : PC Tryz.prog 14 [] (.bool true) :=
  PC.run mixed Tryz.func14 [.res (ellT 100 0 2500 0 2500 0), .res (ellT 0 0 1 0 1 0), .res (Mk.mk aU 0).val, .res (.bool true)] rfl ts0
    (qs4 (ball_qc 100 0 50 _ rfl) (ball_qc 0 0 1 _ rfl) (upd_qc aE_ok aN_ok 90 92 _ awake8_v) (inE_qc 84 0 91 0 (a := 595) (b := 0) (d := 2783) .lit .lit .lit _ rfl)) rfl rfl (by kernel_rfl)
theorem awake8 : QC Tryz.prog 14 [] (.bool true) := QC.of_pc enters_awake8 awake8_pc
end Go.Proofs.YtaibhjphgdjcmaaGreat.W
