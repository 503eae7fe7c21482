/-
  Long division, the program's pieces: memories and states.
-/
import Derived.Test.YtjmdppnhpfdhdaaDivB
import Derived.Test.YtjmdppnhpfdhdaaWideL
import Derived.Test.YtjmdppnhpfdhdaaEvK
namespace Go.Proofs.Ytjmdppnhpfdhdaa.W
open Go Go.Ev Go.Wide

def m17 (p : Nat → Nat) : List Value := (List.range 17).map fun t => .int .u64 (p t)
theorem set17 (p : Nat → Nat) (i j v : Nat) : (m17 p).set (i + ((j : Nat) : Int).toNat * 1) (.int .u64 v) = m17 (fun t => if t = i + j then v else p t) := by
  unfold m17
  rw [map_set, Int.toNat_natCast, Nat.mul_one]
  refine List.map_congr_left fun t _ => ?_
  by_cases h : t = i + j
  · rw [if_pos h]; simp only [if_pos h]
  · rw [if_neg h]; simp only [if_neg h]
theorem get17 (p : Nat → Nat) {i j : Nat} (h : i + j < 17) : (m17 p).getD (i + ((j : Nat) : Int).toNat * 1) undef = u (p (i + j)) := by
  unfold m17
  rw [Int.toNat_natCast, Nat.mul_one, List.getD_eq_getElem?_getD, List.getElem?_map, List.getElem?_range h]
  rfl
theorem m17_congr {p p' : Nat → Nat} (h : ∀ t, p t = p' t) : m17 p = m17 p' := by rw [funext h]
theorem getWord (V : Nat) {j : Nat} (h : j < 16) : (words V).getD (0 + ((j : Nat) : Int).toNat * 1) undef = u (wd V j) := getD_map h

/-- Where a division works: the two numbers, the quotient's words, the divisor, shifted, and the rest. -/
def M5 (M N V : Nat) (q : List Value) (r : List Value) : Mem := [⟨words M, 58, true⟩, ⟨words N, 58, true⟩, ⟨q, 58, true⟩, ⟨words V, 58, true⟩, ⟨r, 124, true⟩]
/-- The rest's words i .. i + L, and the divisor's L words. -/
def psl (i L : Nat) : Value := .slice (some ⟨4, i, none⟩) (L + 1) (17 - i)
def dsl (L : Nat) : Value := .slice (some ⟨3, 0, none⟩) L 16
def q16 (p : Nat → Nat) : List Value := (List.range 16).map fun t => .int .u64 (p t)

def spS (M N V i L j d c b : Nat) (q : List Value) (p : Nat → Nat) : St := ⟨slots 58 [(0, psl i L), (1, dsl L), (2, u d), (7, u c), (8, u b), (13, dsl L), (14, .int .i64 L), (15, .int .i64 j)], M5 M N V q (m17 p)⟩
def spL : List Nat := [0, 1, 2, 7, 8, 13, 14, 15]
def abS (M N V i L j c : Nat) (q : List Value) (p : Nat → Nat) : St := ⟨slots 46 [(0, psl i L), (1, dsl L), (5, u c), (9, dsl L), (10, .int .i64 L), (11, .int .i64 j)], M5 M N V q (m17 p)⟩
def abL : List Nat := [0, 1, 5, 9, 10, 11]
def tdS (M N V i L d : Nat) (neg : Bool) (q : List Value) (p : Nat → Nat) : St := ⟨slots 22 [(0, psl i L), (1, dsl L), (5, u d), (6, .bool neg)], M5 M N V q (m17 p)⟩
def tdL : List Nat := [0, 1, 5, 6]
def dbS (M N V L : Nat) (i : Int) (q : List Value) (p : Nat → Nat) : St := ⟨slots 49 [(4, ptr 2), (6, .int .i64 L), (9, dsl L), (10, ptr 4), (11, .int .i64 i)], M5 M N V q (m17 p)⟩
def dbL : List Nat := [4, 6, 9, 10, 11]
end Go.Proofs.Ytjmdppnhpfdhdaa.W
