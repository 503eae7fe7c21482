/-
  InfoTurns: fused in either order.
-/
import Derived.Test.YtcpaajjeoeejaaaGreatInfoM
namespace Go.Proofs.YtcpaajjeoeejaaaGreat.W
open Go Go.Ev Go.Wide

def n35 (s : Int) : Int := IntKind.i64.wrap ((IntKind.u64.wrap s).tmod 35)
theorem mixQ_comm (i j : Inq) (w : Int) : mixQ j i (34 - w) = mixQ i j w := by
  have e : 34 - (34 - w) = w := by omega
  have m : ∀ x y : Int, mixI (34 - w) w j.n i.n y x = mixI w (34 - w) i.n j.n x y := fun x y => by unfold mixI; rw [Int.add_comm]
  unfold mixQ
  rw [e]
  simp only [m]
  congr 1
  grind
theorem fuseV_comm (x y a b d X Y A B D w : Int) : fuseV X Y A B D x y a b d (34 - w) = fuseV x y a b d X Y A B D w := by
  unfold fuseV
  rw [mixQ_comm, Bool.and_comm]
theorem fuse_back {x y a b d X Y A B D w : Int} {v : Value} (h0 : 0 ≤ w) (h1 : w ≤ 34) (ha : I64 a) (hb : I64 b) (hd : I64 d) (hA : I64 A) (hB : I64 B) (hD : I64 D) (h : fuseV x y a b d X Y A B D w = v) : QC Tryz.prog 25 [ell X Y A B D, ell x y a b d, .int .i64 (IntKind.i64.wrap (34 - w))] v := by
  rw [show IntKind.i64.wrap (34 - w) = 34 - w from i64_wrap (by omega) (by omega)]
  exact fuse_qc X Y x y (by omega) (by omega) hA hB hD ha hb hd v ((fuseV_comm x y a b d X Y A B D w).trans h)
end Go.Proofs.YtcpaajjeoeejaaaGreat.W
