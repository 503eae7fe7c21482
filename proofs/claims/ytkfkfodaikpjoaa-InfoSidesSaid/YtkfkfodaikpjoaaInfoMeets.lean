/-
  InfoMeets: what is in both is in what is fused, or cut.
-/
import Derived.Test.YtkfkfodaikpjoaaInfoTurns
namespace Go.Proofs.Ytkfkfodaikpjoaa.W
open Go Go.Ev Go.Wide

theorem fuse_meets {x y a b d X Y A B D w p q P Q R S T : Int} {e : Nat} (h0 : 0 ≤ w) (h1 : w ≤ 34) (h : inE x y a b d p q = true) (h' : inE X Y A B D p q = true) (he : fuseV x y a b d X Y A B D w = ellT P Q R S T e) : ¬ ((e : Nat) : Int) = 3 ∧ (((e : Nat) : Int) = 0 → inE P Q R S T p q = true) := by
  obtain ⟨m1, k1, i1, _, _⟩ := inE_near h
  obtain ⟨m2, _, i2, _, _⟩ := inE_near h'
  unfold fuseV at he
  rw [m1, m2] at he
  have g1 := mayL_iff.1 m1
  have g2 := mayL_iff.1 m2
  have := ellQ_holds (within_iff.1 k1) (mix_holds h0 h1 (show 0 ≤ detI a b d by omega) (show 0 ≤ detI A B D by omega) ((of_in m1).2 i1) ((of_in m2).2 i2)) he
  exact ⟨by omega, fun h => this.2 (by omega)⟩
theorem cut_meets {x y a b d ox oy hx hy lo hi w p q P Q R S T : Int} {e : Nat} (h0 : 0 ≤ w) (h1 : w ≤ 34) (h : inE x y a b d p q = true) (h' : mayS ox oy hx hy lo hi = true) (c1 : ¬ atI ox oy hx hy p q < lo) (c2 : ¬ atI ox oy hx hy p q > hi) (he : cutV x y a b d ox oy hx hy lo hi w = ellT P Q R S T e) : ¬ ((e : Nat) : Int) = 3 ∧ (((e : Nat) : Int) = 0 → inE P Q R S T p q = true) := by
  obtain ⟨m1, k1, i1, _, _⟩ := inE_near h
  unfold cutV at he
  rw [m1, h'] at he
  have g1 := mayL_iff.1 m1
  have g2 := mayS_iff.1 h'
  have := ellQ_holds (within_iff.1 k1) (mix_holds (j := osQ ox oy hx hy lo hi) h0 h1 (show 0 ≤ detI a b d by omega) (show 0 ≤ (hi - lo) * (hi - lo) from sq_nn _) ((of_in m1).2 i1) ((os_in g2.2.2.2.2.1).2 ⟨by omega, by omega⟩)) he
  exact ⟨by omega, fun h => this.2 (by omega)⟩
theorem inE_i64 {x y a b d p q : Int} (h : inE x y a b d p q = true) : I64 a ∧ I64 b ∧ I64 d := by
  have g := mayL_iff.1 (inE_near h).1
  exact ⟨⟨by omega, by omega⟩, ⟨by omega, by omega⟩, by omega, by omega⟩
/-- Where a point is across a strip, as the program reckons. -/
def atW (ox oy hx hy p q : Int) : Int := IntKind.i64.wrap (IntKind.i64.wrap (hx * IntKind.i64.wrap (p - ox)) + IntKind.i64.wrap (hy * IntKind.i64.wrap (q - oy)))
theorem atW_eq {ox oy hx hy lo hi p q : Int} (h : mayS ox oy hx hy lo hi = true) (hp : -1073741824 ≤ p ∧ p ≤ 1073741824) (hq : -1073741824 ≤ q ∧ q ≤ 1073741824) : atW ox oy hx hy p q = atI ox oy hx hy p q := by
  have g := mayS_iff.1 h
  have b1 := mul_bd (x := hx) (y := p - ox) (p := 16777216) (q := 2147483648) (by omega) (by omega)
  have b2 := mul_bd (x := hy) (y := q - oy) (p := 16777216) (q := 2147483648) (by omega) (by omega)
  unfold atW atI
  rw [wrapS (z := p - ox) (by omega), wrapS (z := q - oy) (by omega), wrapS (z := hx * (p - ox)) (by omega), wrapS (z := hy * (q - oy)) (by omega), wrapS (by omega)]
theorem neN {e : Nat} (h : ((e : Nat) : Int) = 0) : (!!decide (((e : Nat) : Int) = 0)) = true := by rw [decide_eq_true h]; rfl
theorem infoMeets_pc {x y a b d X Y A B D ox oy hx hy lo hi w p q : Int} (ha : I64 a) (hb : I64 b) (hd : I64 d) (hA : I64 A) (hB : I64 B) (hD : I64 D) : PC Try.prog 3 [ell x y a b d, ell X Y A B D, strV ox oy hx hy lo hi, Value.int .i64 w, pt p q] (.bool true) := by
  have hfl : [ell x y a b d, ell X Y A B D, strV ox oy hx hy lo hi, Value.int .i64 w, pt p q].all flat = true := by simp [flat_ell, flat_pt, flat_strV]; rfl --]
  have hn : 0 ≤ n35 w ∧ n35 w < 35 := u64_mod w (by omega) (by omega)
  cases h4 : inE x y a b d p q with
  | true =>
    have hw := within_iff.1 (inE_near h4).2.1
    cases h5 : inE X Y A B D p q with
    | true =>
      obtain ⟨P, Q, R, S, T, e, he⟩ := fuseV_form x y a b d X Y A B D (n35 w)
      have hm := fuse_meets hn.1 (by omega) h4 h5 he
      by_cases z0 : ((e : Nat) : Int) = 0
      ·
        obtain ⟨j1, j2, j3⟩ := inE_i64 (hm.2 z0)
        cases h6 : mayS ox oy hx hy lo hi with
        | true =>
          have hat := atW_eq h6 hw.1 hw.2
          by_cases c1 : atW ox oy hx hy p q < lo
          ·
            exact PC.run mixed Try.func3 [.res (.bool true), .res (.bool true), .res (ellT P Q R S T e), .tst false, .tst true, .res (.bool true), .res (.bool true), .auto, .tst true, .res (.bool true)] hfl (ts3 (tF hm.1) (tT z0) (tT c1)) (qs6 (inE_qc x y p q ha hb hd _ h4) (inE_qc X Y p q hA hB hD _ h5) (fuse_qc x y X Y hn.1 (by omega) ha hb hd hA hB hD _ he) (inE_qc P Q p q j1 j2 j3 _ (hm.2 z0)) (mayS_qc _ _ _ _ _ _ _ h6) (awakeI)) (rfl) (rfl) (by kernel_rfl)
          ·
            by_cases c2 : atW ox oy hx hy p q > hi
            ·
              exact PC.run mixed Try.func3 [.res (.bool true), .res (.bool true), .res (ellT P Q R S T e), .tst false, .tst true, .res (.bool true), .res (.bool true), .auto, .tst false, .tst true, .res (.bool true)] hfl (ts4 (tF hm.1) (tT z0) (tF c1) (tT c2)) (qs6 (inE_qc x y p q ha hb hd _ h4) (inE_qc X Y p q hA hB hD _ h5) (fuse_qc x y X Y hn.1 (by omega) ha hb hd hA hB hD _ he) (inE_qc P Q p q j1 j2 j3 _ (hm.2 z0)) (mayS_qc _ _ _ _ _ _ _ h6) (awakeI)) (rfl) (rfl) (by kernel_rfl)
            ·
              obtain ⟨P', Q', R', S', T', e', he'⟩ := cutV_form x y a b d ox oy hx hy lo hi (n35 w)
              have hm' := cut_meets hn.1 (by omega) h4 h6 (by rw [← hat]; exact c1) (by rw [← hat]; exact c2) he'
              by_cases z1 : ((e' : Nat) : Int) = 0
              ·
                obtain ⟨k1, k2, k3⟩ := inE_i64 (hm'.2 z1)
                exact PC.run mixed Try.func3 [.res (.bool true), .res (.bool true), .res (ellT P Q R S T e), .tst false, .tst true, .res (.bool true), .res (.bool true), .auto, .tst false, .tst false, .res (ellT P' Q' R' S' T' e'), .tst true, .tst false, .res (.bool true), .res (.bool true)] hfl (ts6 (tF hm.1) (tT z0) (tF c1) (tF c2) (tF hm'.1) (neN z1)) (qs8 (inE_qc x y p q ha hb hd _ h4) (inE_qc X Y p q hA hB hD _ h5) (fuse_qc x y X Y hn.1 (by omega) ha hb hd hA hB hD _ he) (inE_qc P Q p q j1 j2 j3 _ (hm.2 z0)) (mayS_qc _ _ _ _ _ _ _ h6) (cut_qc x y ox oy hx hy lo hi hn.1 (by omega) ha hb hd _ he') (inE_qc P' Q' p q k1 k2 k3 _ (hm'.2 z1)) (awakeI)) (rfl) (rfl) (by kernel_rfl)
              ·
                exact PC.run mixed Try.func3 [.res (.bool true), .res (.bool true), .res (ellT P Q R S T e), .tst false, .tst true, .res (.bool true), .res (.bool true), .auto, .tst false, .tst false, .res (ellT P' Q' R' S' T' e'), .tst true, .tst true, .res (.bool true)] hfl (ts6 (tF hm.1) (tT z0) (tF c1) (tF c2) (tF hm'.1) (tF z1)) (qs7 (inE_qc x y p q ha hb hd _ h4) (inE_qc X Y p q hA hB hD _ h5) (fuse_qc x y X Y hn.1 (by omega) ha hb hd hA hB hD _ he) (inE_qc P Q p q j1 j2 j3 _ (hm.2 z0)) (mayS_qc _ _ _ _ _ _ _ h6) (cut_qc x y ox oy hx hy lo hi hn.1 (by omega) ha hb hd _ he') (awakeI)) (rfl) (rfl) (by kernel_rfl)
        | false =>
          exact PC.run mixed Try.func3 [.res (.bool true), .res (.bool true), .res (ellT P Q R S T e), .tst false, .tst true, .res (.bool true), .res (.bool false), .res (.bool true)] hfl (ts2 (tF hm.1) (tT z0)) (qs6 (inE_qc x y p q ha hb hd _ h4) (inE_qc X Y p q hA hB hD _ h5) (fuse_qc x y X Y hn.1 (by omega) ha hb hd hA hB hD _ he) (inE_qc P Q p q j1 j2 j3 _ (hm.2 z0)) (mayS_qc _ _ _ _ _ _ _ h6) (awakeI)) (rfl) (rfl) (by kernel_rfl)
      ·
        cases h6 : mayS ox oy hx hy lo hi with
        | true =>
          have hat := atW_eq h6 hw.1 hw.2
          by_cases c1 : atW ox oy hx hy p q < lo
          ·
            exact PC.run mixed Try.func3 [.res (.bool true), .res (.bool true), .res (ellT P Q R S T e), .tst false, .tst false, .res (.bool true), .auto, .tst true, .res (.bool true)] hfl (ts3 (tF hm.1) (tF z0) (tT c1)) (qs5 (inE_qc x y p q ha hb hd _ h4) (inE_qc X Y p q hA hB hD _ h5) (fuse_qc x y X Y hn.1 (by omega) ha hb hd hA hB hD _ he) (mayS_qc _ _ _ _ _ _ _ h6) (awakeI)) (rfl) (rfl) (by kernel_rfl)
          ·
            by_cases c2 : atW ox oy hx hy p q > hi
            ·
              exact PC.run mixed Try.func3 [.res (.bool true), .res (.bool true), .res (ellT P Q R S T e), .tst false, .tst false, .res (.bool true), .auto, .tst false, .tst true, .res (.bool true)] hfl (ts4 (tF hm.1) (tF z0) (tF c1) (tT c2)) (qs5 (inE_qc x y p q ha hb hd _ h4) (inE_qc X Y p q hA hB hD _ h5) (fuse_qc x y X Y hn.1 (by omega) ha hb hd hA hB hD _ he) (mayS_qc _ _ _ _ _ _ _ h6) (awakeI)) (rfl) (rfl) (by kernel_rfl)
            ·
              obtain ⟨P', Q', R', S', T', e', he'⟩ := cutV_form x y a b d ox oy hx hy lo hi (n35 w)
              have hm' := cut_meets hn.1 (by omega) h4 h6 (by rw [← hat]; exact c1) (by rw [← hat]; exact c2) he'
              by_cases z1 : ((e' : Nat) : Int) = 0
              ·
                obtain ⟨k1, k2, k3⟩ := inE_i64 (hm'.2 z1)
                exact PC.run mixed Try.func3 [.res (.bool true), .res (.bool true), .res (ellT P Q R S T e), .tst false, .tst false, .res (.bool true), .auto, .tst false, .tst false, .res (ellT P' Q' R' S' T' e'), .tst true, .tst false, .res (.bool true), .res (.bool true)] hfl (ts6 (tF hm.1) (tF z0) (tF c1) (tF c2) (tF hm'.1) (neN z1)) (qs7 (inE_qc x y p q ha hb hd _ h4) (inE_qc X Y p q hA hB hD _ h5) (fuse_qc x y X Y hn.1 (by omega) ha hb hd hA hB hD _ he) (mayS_qc _ _ _ _ _ _ _ h6) (cut_qc x y ox oy hx hy lo hi hn.1 (by omega) ha hb hd _ he') (inE_qc P' Q' p q k1 k2 k3 _ (hm'.2 z1)) (awakeI)) (rfl) (rfl) (by kernel_rfl)
              ·
                exact PC.run mixed Try.func3 [.res (.bool true), .res (.bool true), .res (ellT P Q R S T e), .tst false, .tst false, .res (.bool true), .auto, .tst false, .tst false, .res (ellT P' Q' R' S' T' e'), .tst true, .tst true, .res (.bool true)] hfl (ts6 (tF hm.1) (tF z0) (tF c1) (tF c2) (tF hm'.1) (tF z1)) (qs6 (inE_qc x y p q ha hb hd _ h4) (inE_qc X Y p q hA hB hD _ h5) (fuse_qc x y X Y hn.1 (by omega) ha hb hd hA hB hD _ he) (mayS_qc _ _ _ _ _ _ _ h6) (cut_qc x y ox oy hx hy lo hi hn.1 (by omega) ha hb hd _ he') (awakeI)) (rfl) (rfl) (by kernel_rfl)
        | false =>
          exact PC.run mixed Try.func3 [.res (.bool true), .res (.bool true), .res (ellT P Q R S T e), .tst false, .tst false, .res (.bool false), .res (.bool true)] hfl (ts2 (tF hm.1) (tF z0)) (qs5 (inE_qc x y p q ha hb hd _ h4) (inE_qc X Y p q hA hB hD _ h5) (fuse_qc x y X Y hn.1 (by omega) ha hb hd hA hB hD _ he) (mayS_qc _ _ _ _ _ _ _ h6) (awakeI)) (rfl) (rfl) (by kernel_rfl)
    | false =>
      cases h6 : mayS ox oy hx hy lo hi with
      | true =>
        have hat := atW_eq h6 hw.1 hw.2
        by_cases c1 : atW ox oy hx hy p q < lo
        ·
          exact PC.run mixed Try.func3 [.res (.bool true), .res (.bool false), .res (.bool true), .auto, .tst true, .res (.bool true)] hfl (ts1 (tT c1)) (qs4 (inE_qc x y p q ha hb hd _ h4) (inE_qc X Y p q hA hB hD _ h5) (mayS_qc _ _ _ _ _ _ _ h6) (awakeI)) (rfl) (rfl) (by kernel_rfl)
        ·
          by_cases c2 : atW ox oy hx hy p q > hi
          ·
            exact PC.run mixed Try.func3 [.res (.bool true), .res (.bool false), .res (.bool true), .auto, .tst false, .tst true, .res (.bool true)] hfl (ts2 (tF c1) (tT c2)) (qs4 (inE_qc x y p q ha hb hd _ h4) (inE_qc X Y p q hA hB hD _ h5) (mayS_qc _ _ _ _ _ _ _ h6) (awakeI)) (rfl) (rfl) (by kernel_rfl)
          ·
            obtain ⟨P', Q', R', S', T', e', he'⟩ := cutV_form x y a b d ox oy hx hy lo hi (n35 w)
            have hm' := cut_meets hn.1 (by omega) h4 h6 (by rw [← hat]; exact c1) (by rw [← hat]; exact c2) he'
            by_cases z1 : ((e' : Nat) : Int) = 0
            ·
              obtain ⟨k1, k2, k3⟩ := inE_i64 (hm'.2 z1)
              exact PC.run mixed Try.func3 [.res (.bool true), .res (.bool false), .res (.bool true), .auto, .tst false, .tst false, .res (ellT P' Q' R' S' T' e'), .tst true, .tst false, .res (.bool true), .res (.bool true)] hfl (ts4 (tF c1) (tF c2) (tF hm'.1) (neN z1)) (qs6 (inE_qc x y p q ha hb hd _ h4) (inE_qc X Y p q hA hB hD _ h5) (mayS_qc _ _ _ _ _ _ _ h6) (cut_qc x y ox oy hx hy lo hi hn.1 (by omega) ha hb hd _ he') (inE_qc P' Q' p q k1 k2 k3 _ (hm'.2 z1)) (awakeI)) (rfl) (rfl) (by kernel_rfl)
            ·
              exact PC.run mixed Try.func3 [.res (.bool true), .res (.bool false), .res (.bool true), .auto, .tst false, .tst false, .res (ellT P' Q' R' S' T' e'), .tst true, .tst true, .res (.bool true)] hfl (ts4 (tF c1) (tF c2) (tF hm'.1) (tF z1)) (qs5 (inE_qc x y p q ha hb hd _ h4) (inE_qc X Y p q hA hB hD _ h5) (mayS_qc _ _ _ _ _ _ _ h6) (cut_qc x y ox oy hx hy lo hi hn.1 (by omega) ha hb hd _ he') (awakeI)) (rfl) (rfl) (by kernel_rfl)
      | false =>
        exact PC.run mixed Try.func3 [.res (.bool true), .res (.bool false), .res (.bool false), .res (.bool true)] hfl (ts0 ) (qs4 (inE_qc x y p q ha hb hd _ h4) (inE_qc X Y p q hA hB hD _ h5) (mayS_qc _ _ _ _ _ _ _ h6) (awakeI)) (rfl) (rfl) (by kernel_rfl)
  | false =>
    exact PC.run mixed Try.func3 [.res (.bool false), .res (.bool true)] hfl (ts0 ) (qs2 (inE_qc x y p q ha hb hd _ h4) (awakeI)) (rfl) (rfl) (by kernel_rfl)
theorem enters_infoMeets : ∀ us w, (callFunc 3 us).run Try.prog w = .ok (.enter 3 us) w := enters Try.func3 rfl (by kernel_rfl)
end Go.Proofs.Ytkfkfodaikpjoaa.W
