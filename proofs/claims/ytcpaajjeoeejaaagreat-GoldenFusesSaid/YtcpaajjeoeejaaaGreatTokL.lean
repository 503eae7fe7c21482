/-
  The reference's search: what is asked goes to a list that grows.
-/
import Derived.Test.YtcpaajjeoeejaaaGreatTokJ
import Derived.Test.YtcpaajjeoeejaaaGreatGoldT
import Derived.Test.YtcpaajjeoeejaaaGreatLst
namespace Go.Proofs.YtcpaajjeoeejaaaGreat.R
open Go Go.Ev Go.W32
open Go.Proofs.YtcpaajjeoeejaaaGreat.W (mixed ell ellT mayL mayS strV eBlk sBlk ellC El Mk Sp SS mkF mkC ptr betterS stepS)

def schT : TypeId := 92
def schC (fp sp : Value) (em : Bool) (hd : Value) (s : SS) : List Value :=
  [.slice none 0 0, ptr 0, fp, sp, .bool em, hd, .int .i64 s.w, .int .i64 s.v, .bool s.has, .int .i64 s.e.x, .int .i64 s.e.y, .int .i64 s.e.a, .int .i64 s.e.b, .int .i64 s.e.d]
/-- The memory of a search: the ellipse, the other one or the strip, what is answered, the search, what was asked. -/
def memR (B0 B1 B2 : Blk) (fp sp : Value) (em : Bool) (n : Nat) (cs : List Value) (s : SS) : Mem := [B0, B1, B2, ⟨schC fp sp em (lstTok 4 n 0) s, schT, true⟩, ⟨cs, lstT, false⟩]
def nilP : Value := .pointer none
def memF (e f : El) (em : Bool) (n : Nat) (cs : List Value) (s : SS) : Mem := memR (eBlk e.cells) (eBlk f.cells) (eBlk (ellC 0 0 0 0 0)) (ptr 1) nilP em n cs s
def memC (e : El) (p : Sp) (em : Bool) (n : Nat) (cs : List Value) (s : SS) : Mem := memR (eBlk e.cells) (sBlk p.cells) (eBlk (ellC 0 0 0 0 0)) nilP (ptr 1) em n cs s
def valV (v : Int) (ok : Bool) : Value := .agg #[.int .i64 v, .bool ok]
theorem enters_rask : ∀ us w, (callFunc 98 us).run Tryz.prog w = .ok (.enter 98 us) w := enters Tryz.func98 rfl (by kernel_rfl)
/-- Is there room for one more? -/
def roomB (n : Nat) (cs : List Value) : Bool := (Nat.beq cs.length (n * (0 + 1)) && true && Nat.ble (n + 1) 140737488355328) && Nat.ble ((n + 1) * 8) 140737488355328
theorem room_ok {L : List Int} (h : L.length ≤ 40) : roomB L.length (L.map (Value.int .i64)) = true := by
  unfold roomB
  simp only [Bool.and_eq_true, Nat.ble_eq, List.length_map, Nat.zero_add, Nat.mul_one, Nat.beq_refl, and_self, true_and]
  omega
theorem ints_new (n : Nat) (L : List Int) : (L.map (Value.int .i64)).all (noNew1 n) = true := by
  rw [List.all_map, List.all_eq_true]
  intro i _
  rfl
section
variable {e f : El} {em : Bool} {n : Nat} {cs : List Value} {s : SS} {w : Int} {m : Mk}
theorem raskF_new (hr : roomB n cs = true) (hc : (cs ++ [Value.int .i64 w]).all (noNew1 5) = true) (q1 : MC Tryz.prog 134 [e.val, f.val, .int .i64 w] [] m.val []) (q2 : QC Tryz.prog 48 [m.e.val] (.int .i64 m.e.tr)) (hs : s.has = false) (hm : m.n = 0) :
    MC Tryz.prog 98 [ptr 3, .int .i64 w] (memF e f em n cs s) (valV m.e.tr true) (memF e f em (n + 1) (cs ++ [.int .i64 w]) ⟨w, m.e.tr, true, m.e⟩) := by
  obtain ⟨sw, sv, sh, se⟩ := s
  obtain ⟨me, mn⟩ := m
  simp only at hs hm
  subst hs hm
  cases em <;> exact MC.run5 mixed Tryz.func98 [.ab (Mk.mk me 0).val, .res (.int .i64 me.tr)] (ts2 hr hc) (qs2 q1 q2) rfl rfl enters_rask (by kernel_rfl)
theorem raskF_less (hr : roomB n cs = true) (hc : (cs ++ [Value.int .i64 w]).all (noNew1 5) = true) (q1 : MC Tryz.prog 134 [e.val, f.val, .int .i64 w] [] m.val []) (q2 : QC Tryz.prog 48 [m.e.val] (.int .i64 m.e.tr)) (hs : s.has = true) (hm : m.n = 0) (h1 : m.e.tr < s.v) :
    MC Tryz.prog 98 [ptr 3, .int .i64 w] (memF e f em n cs s) (valV m.e.tr true) (memF e f em (n + 1) (cs ++ [.int .i64 w]) ⟨w, m.e.tr, true, m.e⟩) := by
  obtain ⟨sw, sv, sh, se⟩ := s
  obtain ⟨me, mn⟩ := m
  simp only at hs hm
  subst hs hm
  cases em <;> exact MC.run5 mixed Tryz.func98 [.ab (Mk.mk me 0).val, .res (.int .i64 me.tr), .auto, .auto, .tst true] (ts3 hr (tT h1) hc) (qs2 q1 q2) rfl rfl enters_rask (by kernel_rfl)
theorem raskF_left (hr : roomB n cs = true) (hc : (cs ++ [Value.int .i64 w]).all (noNew1 5) = true) (q1 : MC Tryz.prog 134 [e.val, f.val, .int .i64 w] [] m.val []) (q2 : QC Tryz.prog 48 [m.e.val] (.int .i64 m.e.tr)) (hs : s.has = true) (hm : m.n = 0) (h1 : ¬ m.e.tr < s.v) (h2 : m.e.tr = s.v) (h3 : w < s.w) :
    MC Tryz.prog 98 [ptr 3, .int .i64 w] (memF e f em n cs s) (valV m.e.tr true) (memF e f em (n + 1) (cs ++ [.int .i64 w]) ⟨w, m.e.tr, true, m.e⟩) := by
  obtain ⟨sw, sv, sh, se⟩ := s
  obtain ⟨me, mn⟩ := m
  simp only at hs hm
  subst hs hm
  cases em <;> exact MC.run5 mixed Tryz.func98 [.ab (Mk.mk me 0).val, .res (.int .i64 me.tr), .auto, .auto, .tst false, .tst true, .tst true] (ts5 hr (tF h1) (tT h2) (tT h3) hc) (qs2 q1 q2) rfl rfl enters_rask (by kernel_rfl)
theorem raskF_same (hr : roomB n cs = true) (hc : (cs ++ [Value.int .i64 w]).all (noNew1 5) = true) (q1 : MC Tryz.prog 134 [e.val, f.val, .int .i64 w] [] m.val []) (q2 : QC Tryz.prog 48 [m.e.val] (.int .i64 m.e.tr)) (hs : s.has = true) (hm : m.n = 0) (h1 : ¬ m.e.tr < s.v) (h2 : m.e.tr = s.v) (h3 : ¬ w < s.w) :
    MC Tryz.prog 98 [ptr 3, .int .i64 w] (memF e f em n cs s) (valV m.e.tr true) (memF e f em (n + 1) (cs ++ [.int .i64 w]) s) := by
  obtain ⟨sw, sv, sh, se⟩ := s
  obtain ⟨me, mn⟩ := m
  simp only at hs hm
  subst hs hm
  cases em <;> exact MC.run5 mixed Tryz.func98 [.ab (Mk.mk me 0).val, .res (.int .i64 me.tr), .auto, .auto, .tst false, .tst true, .tst false] (ts5 hr (tF h1) (tT h2) (tF h3) hc) (qs2 q1 q2) rfl rfl enters_rask (by kernel_rfl)
theorem raskF_more (hr : roomB n cs = true) (hc : (cs ++ [Value.int .i64 w]).all (noNew1 5) = true) (q1 : MC Tryz.prog 134 [e.val, f.val, .int .i64 w] [] m.val []) (q2 : QC Tryz.prog 48 [m.e.val] (.int .i64 m.e.tr)) (hs : s.has = true) (hm : m.n = 0) (h1 : ¬ m.e.tr < s.v) (h2 : ¬ m.e.tr = s.v) :
    MC Tryz.prog 98 [ptr 3, .int .i64 w] (memF e f em n cs s) (valV m.e.tr true) (memF e f em (n + 1) (cs ++ [.int .i64 w]) s) := by
  obtain ⟨sw, sv, sh, se⟩ := s
  obtain ⟨me, mn⟩ := m
  simp only at hs hm
  subst hs hm
  cases em <;> exact MC.run5 mixed Tryz.func98 [.ab (Mk.mk me 0).val, .res (.int .i64 me.tr), .auto, .auto, .tst false, .tst false] (ts4 hr (tF h1) (tF h2) hc) (qs2 q1 q2) rfl rfl enters_rask (by kernel_rfl)
theorem raskF_none (hr : roomB n cs = true) (hc : (cs ++ [Value.int .i64 w]).all (noNew1 5) = true) (q1 : MC Tryz.prog 134 [e.val, f.val, .int .i64 w] [] m.val []) (q2 : QC Tryz.prog 48 [m.e.val] (.int .i64 m.e.tr)) (hm : ¬ (m.n : Int) = 0) :
    MC Tryz.prog 98 [ptr 3, .int .i64 w] (memF e f em n cs s) (valV m.e.tr (decide ((m.n : Int) = 0))) (memF e f (em || decide ((m.n : Int) = 3)) (n + 1) (cs ++ [.int .i64 w]) s) := by
  obtain ⟨sw, sv, sh, se⟩ := s
  obtain ⟨me, mn⟩ := m
  cases em <;> exact MC.run5 mixed Tryz.func98 [.ab (Mk.mk me mn).val, .res (.int .i64 me.tr), .tst false] (ts3 hr (tF hm) hc) (qs2 q1 q2) rfl rfl enters_rask (by kernel_rfl)
theorem raskF {mk : Int → Mk} (hmk : mk w = m) (hr : roomB n cs = true) (hc : (cs ++ [Value.int .i64 w]).all (noNew1 5) = true) (q1 : MC Tryz.prog 134 [e.val, f.val, .int .i64 w] [] m.val []) (q2 : QC Tryz.prog 48 [m.e.val] (.int .i64 m.e.tr)) :
    MC Tryz.prog 98 [ptr 3, .int .i64 w] (memF e f em n cs s) (valV m.e.tr (decide ((m.n : Int) = 0))) (memF e f (em || decide ((m.n : Int) = 3)) (n + 1) (cs ++ [.int .i64 w]) (stepS mk s w)) := by
  by_cases h0 : m.n = 0
  · have e1 : decide ((m.n : Int) = 0) = true := by rw [h0]; rfl
    have e2 : (em || decide ((m.n : Int) = 3)) = em := by rw [h0]; exact Bool.or_false em
    rw [e1, e2]
    cases hs : s.has with
    | false =>
      have e3 : stepS mk s w = ⟨w, m.e.tr, true, m.e⟩ := by simp [stepS, betterS, hmk, h0, hs]
      rw [e3]
      exact raskF_new hr hc q1 q2 hs h0
    | true =>
      by_cases h1 : m.e.tr < s.v
      · have e3 : stepS mk s w = ⟨w, m.e.tr, true, m.e⟩ := by simp [stepS, betterS, hmk, h0, hs, h1]
        rw [e3]
        exact raskF_less hr hc q1 q2 hs h0 h1
      · by_cases h2 : m.e.tr = s.v
        · by_cases h3 : w < s.w
          · have e3 : stepS mk s w = ⟨w, m.e.tr, true, m.e⟩ := by simp [stepS, betterS, hmk, h0, hs, h2, h3]
            rw [e3]
            exact raskF_left hr hc q1 q2 hs h0 h1 h2 h3
          · have e3 : stepS mk s w = s := by simp [stepS, betterS, hmk, h0, hs, h2, h3]
            rw [e3]
            exact raskF_same hr hc q1 q2 hs h0 h1 h2 h3
        · have e3 : stepS mk s w = s := by simp [stepS, betterS, hmk, h0, hs, h1, h2]
          rw [e3]
          exact raskF_more hr hc q1 q2 hs h0 h1 h2
  · have h0' : ¬ (m.n : Int) = 0 := by omega
    have e3 : stepS mk s w = s := by simp [stepS, hmk, h0]
    rw [e3]
    exact raskF_none hr hc q1 q2 h0'
end
section
variable {e : El} {p : Sp} {em : Bool} {n : Nat} {cs : List Value} {s : SS} {w : Int} {m : Mk}
theorem raskC_new (hr : roomB n cs = true) (hc : (cs ++ [Value.int .i64 w]).all (noNew1 5) = true) (q1 : MC Tryz.prog 135 [e.val, p.val, .int .i64 w] [] m.val []) (q2 : QC Tryz.prog 48 [m.e.val] (.int .i64 m.e.tr)) (hs : s.has = false) (hm : m.n = 0) :
    MC Tryz.prog 98 [ptr 3, .int .i64 w] (memC e p em n cs s) (valV m.e.tr true) (memC e p em (n + 1) (cs ++ [.int .i64 w]) ⟨w, m.e.tr, true, m.e⟩) := by
  obtain ⟨sw, sv, sh, se⟩ := s
  obtain ⟨me, mn⟩ := m
  simp only at hs hm
  subst hs hm
  cases em <;> exact MC.run5 mixed Tryz.func98 [.ab (Mk.mk me 0).val, .res (.int .i64 me.tr)] (ts2 hr hc) (qs2 q1 q2) rfl rfl enters_rask (by kernel_rfl)
theorem raskC_less (hr : roomB n cs = true) (hc : (cs ++ [Value.int .i64 w]).all (noNew1 5) = true) (q1 : MC Tryz.prog 135 [e.val, p.val, .int .i64 w] [] m.val []) (q2 : QC Tryz.prog 48 [m.e.val] (.int .i64 m.e.tr)) (hs : s.has = true) (hm : m.n = 0) (h1 : m.e.tr < s.v) :
    MC Tryz.prog 98 [ptr 3, .int .i64 w] (memC e p em n cs s) (valV m.e.tr true) (memC e p em (n + 1) (cs ++ [.int .i64 w]) ⟨w, m.e.tr, true, m.e⟩) := by
  obtain ⟨sw, sv, sh, se⟩ := s
  obtain ⟨me, mn⟩ := m
  simp only at hs hm
  subst hs hm
  cases em <;> exact MC.run5 mixed Tryz.func98 [.ab (Mk.mk me 0).val, .res (.int .i64 me.tr), .auto, .auto, .tst true] (ts3 hr (tT h1) hc) (qs2 q1 q2) rfl rfl enters_rask (by kernel_rfl)
theorem raskC_left (hr : roomB n cs = true) (hc : (cs ++ [Value.int .i64 w]).all (noNew1 5) = true) (q1 : MC Tryz.prog 135 [e.val, p.val, .int .i64 w] [] m.val []) (q2 : QC Tryz.prog 48 [m.e.val] (.int .i64 m.e.tr)) (hs : s.has = true) (hm : m.n = 0) (h1 : ¬ m.e.tr < s.v) (h2 : m.e.tr = s.v) (h3 : w < s.w) :
    MC Tryz.prog 98 [ptr 3, .int .i64 w] (memC e p em n cs s) (valV m.e.tr true) (memC e p em (n + 1) (cs ++ [.int .i64 w]) ⟨w, m.e.tr, true, m.e⟩) := by
  obtain ⟨sw, sv, sh, se⟩ := s
  obtain ⟨me, mn⟩ := m
  simp only at hs hm
  subst hs hm
  cases em <;> exact MC.run5 mixed Tryz.func98 [.ab (Mk.mk me 0).val, .res (.int .i64 me.tr), .auto, .auto, .tst false, .tst true, .tst true] (ts5 hr (tF h1) (tT h2) (tT h3) hc) (qs2 q1 q2) rfl rfl enters_rask (by kernel_rfl)
theorem raskC_same (hr : roomB n cs = true) (hc : (cs ++ [Value.int .i64 w]).all (noNew1 5) = true) (q1 : MC Tryz.prog 135 [e.val, p.val, .int .i64 w] [] m.val []) (q2 : QC Tryz.prog 48 [m.e.val] (.int .i64 m.e.tr)) (hs : s.has = true) (hm : m.n = 0) (h1 : ¬ m.e.tr < s.v) (h2 : m.e.tr = s.v) (h3 : ¬ w < s.w) :
    MC Tryz.prog 98 [ptr 3, .int .i64 w] (memC e p em n cs s) (valV m.e.tr true) (memC e p em (n + 1) (cs ++ [.int .i64 w]) s) := by
  obtain ⟨sw, sv, sh, se⟩ := s
  obtain ⟨me, mn⟩ := m
  simp only at hs hm
  subst hs hm
  cases em <;> exact MC.run5 mixed Tryz.func98 [.ab (Mk.mk me 0).val, .res (.int .i64 me.tr), .auto, .auto, .tst false, .tst true, .tst false] (ts5 hr (tF h1) (tT h2) (tF h3) hc) (qs2 q1 q2) rfl rfl enters_rask (by kernel_rfl)
theorem raskC_more (hr : roomB n cs = true) (hc : (cs ++ [Value.int .i64 w]).all (noNew1 5) = true) (q1 : MC Tryz.prog 135 [e.val, p.val, .int .i64 w] [] m.val []) (q2 : QC Tryz.prog 48 [m.e.val] (.int .i64 m.e.tr)) (hs : s.has = true) (hm : m.n = 0) (h1 : ¬ m.e.tr < s.v) (h2 : ¬ m.e.tr = s.v) :
    MC Tryz.prog 98 [ptr 3, .int .i64 w] (memC e p em n cs s) (valV m.e.tr true) (memC e p em (n + 1) (cs ++ [.int .i64 w]) s) := by
  obtain ⟨sw, sv, sh, se⟩ := s
  obtain ⟨me, mn⟩ := m
  simp only at hs hm
  subst hs hm
  cases em <;> exact MC.run5 mixed Tryz.func98 [.ab (Mk.mk me 0).val, .res (.int .i64 me.tr), .auto, .auto, .tst false, .tst false] (ts4 hr (tF h1) (tF h2) hc) (qs2 q1 q2) rfl rfl enters_rask (by kernel_rfl)
theorem raskC_none (hr : roomB n cs = true) (hc : (cs ++ [Value.int .i64 w]).all (noNew1 5) = true) (q1 : MC Tryz.prog 135 [e.val, p.val, .int .i64 w] [] m.val []) (q2 : QC Tryz.prog 48 [m.e.val] (.int .i64 m.e.tr)) (hm : ¬ (m.n : Int) = 0) :
    MC Tryz.prog 98 [ptr 3, .int .i64 w] (memC e p em n cs s) (valV m.e.tr (decide ((m.n : Int) = 0))) (memC e p (em || decide ((m.n : Int) = 3)) (n + 1) (cs ++ [.int .i64 w]) s) := by
  obtain ⟨sw, sv, sh, se⟩ := s
  obtain ⟨me, mn⟩ := m
  cases em <;> exact MC.run5 mixed Tryz.func98 [.ab (Mk.mk me mn).val, .res (.int .i64 me.tr), .tst false] (ts3 hr (tF hm) hc) (qs2 q1 q2) rfl rfl enters_rask (by kernel_rfl)
theorem raskC {mk : Int → Mk} (hmk : mk w = m) (hr : roomB n cs = true) (hc : (cs ++ [Value.int .i64 w]).all (noNew1 5) = true) (q1 : MC Tryz.prog 135 [e.val, p.val, .int .i64 w] [] m.val []) (q2 : QC Tryz.prog 48 [m.e.val] (.int .i64 m.e.tr)) :
    MC Tryz.prog 98 [ptr 3, .int .i64 w] (memC e p em n cs s) (valV m.e.tr (decide ((m.n : Int) = 0))) (memC e p (em || decide ((m.n : Int) = 3)) (n + 1) (cs ++ [.int .i64 w]) (stepS mk s w)) := by
  by_cases h0 : m.n = 0
  · have e1 : decide ((m.n : Int) = 0) = true := by rw [h0]; rfl
    have e2 : (em || decide ((m.n : Int) = 3)) = em := by rw [h0]; exact Bool.or_false em
    rw [e1, e2]
    cases hs : s.has with
    | false =>
      have e3 : stepS mk s w = ⟨w, m.e.tr, true, m.e⟩ := by simp [stepS, betterS, hmk, h0, hs]
      rw [e3]
      exact raskC_new hr hc q1 q2 hs h0
    | true =>
      by_cases h1 : m.e.tr < s.v
      · have e3 : stepS mk s w = ⟨w, m.e.tr, true, m.e⟩ := by simp [stepS, betterS, hmk, h0, hs, h1]
        rw [e3]
        exact raskC_less hr hc q1 q2 hs h0 h1
      · by_cases h2 : m.e.tr = s.v
        · by_cases h3 : w < s.w
          · have e3 : stepS mk s w = ⟨w, m.e.tr, true, m.e⟩ := by simp [stepS, betterS, hmk, h0, hs, h2, h3]
            rw [e3]
            exact raskC_left hr hc q1 q2 hs h0 h1 h2 h3
          · have e3 : stepS mk s w = s := by simp [stepS, betterS, hmk, h0, hs, h2, h3]
            rw [e3]
            exact raskC_same hr hc q1 q2 hs h0 h1 h2 h3
        · have e3 : stepS mk s w = s := by simp [stepS, betterS, hmk, h0, hs, h1, h2]
          rw [e3]
          exact raskC_more hr hc q1 q2 hs h0 h1 h2
  · have h0' : ¬ (m.n : Int) = 0 := by omega
    have e3 : stepS mk s w = s := by simp [stepS, hmk, h0]
    rw [e3]
    exact raskC_none hr hc q1 q2 h0'
end
end Go.Proofs.YtcpaajjeoeejaaaGreat.R
