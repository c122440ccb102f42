/-
  The document's parts, and its text of one term.
-/
import Derived.Test.YtefielnmlekhaaaDoorRd
import Derived.Test.YtefielnmlekhaaaDoorTt
namespace Go.Proofs.YtefielnmlekhaaaDoor
open Go.RowKit
open Go.Lib (decDigits itoa byteCells)
set_option linter.unusedVariables false
set_option maxRecDepth 20000

theorem load90 (w : World) (r : Nat) (a b c : Value) (h0 : w.cell? ⟨r, 0, none⟩ = some a) (h1 : w.cell? ⟨r, 1, none⟩ = some b) (h2 : w.cell? ⟨r, 2, none⟩ = some c) :
    (loadVar 90 ⟨r, 0, none⟩).run Tryd.prog w = .ok (.agg #[a, b, c]) w := by
  simp [go_sem, loadVar, h0, h1, h2]
theorem results_three {fn : Func} {p u : Tmp} (h : fn.results = #[.cell p 90, .tmp u]) (tmps : Array Value) (w : World) (r : Nat) (a b c : Value) (ht : tmps.getD p undef = .pointer (some ⟨r, 0, none⟩))
    (h0 : w.cell? ⟨r, 0, none⟩ = some a) (h1 : w.cell? ⟨r, 1, none⟩ = some b) (h2 : w.cell? ⟨r, 2, none⟩ = some c) :
    (results fn tmps).run Tryd.prog w = .ok (.tuple #[.agg #[a, b, c], tmps.getD u undef]) w := by
  rw [Array.getD_eq_getD_getElem?] at ht
  simp only [results, h]
  simp [Result.andThen, ht, load90 w r a b c h0 h1 h2, asAddr]

/-- An operator that is made of terms. -/
def OpOk (n : Nd) : Prop := (1 ≤ n.op ∧ n.op ≤ 16) ∨ (22 ≤ n.op ∧ n.op ≤ 26)
theorem op_ok {N : List Nd} (r : Wl N) (g : Gd N) {i : Nat} (hi : i < N.length) (h0 : (ndA N i).op ≠ 20) (h1 : (ndA N i).op ≠ 21) : OpOk (ndA N i) := by
  unfold OpOk
  rcases r.shp g hi with ⟨e, _⟩ | ⟨e, _⟩ | ⟨e, _⟩ | ⟨e, _⟩ | ⟨e, _⟩ | ⟨e, _⟩ | ⟨e, _⟩ | ⟨e, _⟩
  all_goals omega

set_option maxHeartbeats 4000000 in
theorem rparts_any (n : Nd) (ho : OpOk n) (w : World) : Calls Tryd.prog 50 #[.agg #[.int .i64 n.op, .int .i64 n.wd, .int .i64 n.a, .int .i64 n.b, .int .i64 n.c, .int .u64 n.v]] w fun e w' =>
    e = .returned (.tuple #[.agg #[.int .i64 ((ksF n).getD 0 0), .int .i64 ((ksF n).getD 1 0), .int .i64 ((ksF n).getD 2 0)], .int .i64 ((ksF n).length : Nat)]) ∧ Hid (Below w.heap.size w w') := by
  unfold OpOk at ho
  obtain ⟨op, wd, a, b, c, v⟩ := n
  simp only [] at ho ⊢
  by_cases e22 : op = 22
  · have HK : Hid (ksF ⟨op, wd, a, b, c, v⟩ = [a, b, c]) := hid (by simp [ksF, e22])
    rw [HK.out]
    subst e22
    clear HK ho
    go_enter Tryd.func50, Tryd.ntmps50
    go_wp2
    refine bodyPost_ret (results_three rfl _ _ (w.heap.size + 1) (.int .i64 a) (.int .i64 b) (.int .i64 c) rfl (by simp [go_sem]) (by simp [go_sem]) (by simp [go_sem])) rfl ?_
    exact ⟨rfl, hid (by go_grown)⟩
  · have q22 := ne_b e22
    by_cases e14 : op ≤ 14
    · have HK : Hid (ksF ⟨op, wd, a, b, c, v⟩ = [a, b]) := hid (by unfold ksF; rw [if_neg (by simp only []; omega), if_neg e22, if_neg (by simp only []; omega)])
      rw [HK.out]
      clear HK ho e22
      go_enter Tryd.func50, Tryd.ntmps50
      go_wp2
      refine bodyPost_ret (results_three rfl _ _ (w.heap.size + 1) (.int .i64 a) (.int .i64 b) (.int .i64 0) rfl (by simp [go_sem]) (by simp [go_sem]) (by simp [go_sem])) rfl ?_
      exact ⟨rfl, hid (by go_grown)⟩
    · by_cases e24 : op = 24
      · have HK : Hid (ksF ⟨op, wd, a, b, c, v⟩ = [a, b]) := hid (by unfold ksF; rw [if_neg (by simp only []; omega), if_neg e22, if_neg (by simp only []; omega)])
        rw [HK.out]
        subst e24
        clear HK ho e22
        go_enter Tryd.func50, Tryd.ntmps50
        go_wp2
        refine bodyPost_ret (results_three rfl _ _ (w.heap.size + 1) (.int .i64 a) (.int .i64 b) (.int .i64 0) rfl (by simp [go_sem]) (by simp [go_sem]) (by simp [go_sem])) rfl ?_
        exact ⟨rfl, hid (by go_grown)⟩
      · have q24 := ne_b e24
        have HK : Hid (ksF ⟨op, wd, a, b, c, v⟩ = [a]) := hid (by unfold ksF; rw [if_neg (by simp only []; omega), if_neg e22, if_pos (by simp only []; omega)])
        rw [HK.out]
        clear HK ho e22 e24
        go_enter Tryd.func50, Tryd.ntmps50
        go_wp2
        refine bodyPost_ret (results_three rfl _ _ (w.heap.size + 1) (.int .i64 a) (.int .i64 0) (.int .i64 0) rfl (by simp [go_sem]) (by simp [go_sem]) (by simp [go_sem])) rfl ?_
        exact ⟨rfl, hid (by go_grown)⟩

/-! ### the text of one term -/
/-- The texts of all ahead, and whether they are not too long, in memory. -/
def shT (N : List Nd) (j : Nat) : List UInt8 := if (TX N j).length ≤ 4096 then TX N j else []
def Ahead (w : World) (aA aF : Option Addr) (N : List Nd) (i : Nat) : Prop := 0 < i → ∃ ga gf, aA = some ⟨ga, 0, none⟩ ∧ aF = some ⟨gf, 0, none⟩ ∧ ∀ j, j < i →
  w.cell? ⟨ga, j, none⟩ = some (.string ⟨(shT N j).toArray⟩) ∧ w.cell? ⟨gf, j, none⟩ = some (.bool (decide ((TX N j).length ≤ 4096)))
theorem Ahead.below {w w' : World} {aA aF : Option Addr} {N : List Nd} {i : Nat} (h : Ahead w aA aF N i) (b : Below w.heap.size w w') : Ahead w' aA aF N i := fun h0 => by
  obtain ⟨ga, gf, e1, e2, h3⟩ := h h0
  exact ⟨ga, gf, e1, e2, fun j hj => ⟨(b.cell (cell_lt (h3 j hj).1)).trans (h3 j hj).1, (b.cell (cell_lt (h3 j hj).2)).trans (h3 j hj).2⟩⟩
theorem Ahead.at {w : World} {aA aF : Option Addr} {N : List Nd} {i : Nat} (h : Ahead w aA aF N i) {j : Nat} (hj : j < i) : ∃ ga gf, aA = some ⟨ga, 0, none⟩ ∧ aF = some ⟨gf, 0, none⟩ ∧
    w.cell? ⟨ga, j, none⟩ = some (.string ⟨(shT N j).toArray⟩) ∧ w.cell? ⟨gf, j, none⟩ = some (.bool (decide ((TX N j).length ≤ 4096))) := by
  obtain ⟨ga, gf, e1, e2, h3⟩ := h (by omega)
  exact ⟨ga, gf, e1, e2, h3 j hj⟩

/-- What the document's text of one term answers. -/
def ShEnd (N : List Nd) (i : Nat) (w : World) (e : Ending) (w' : World) : Prop :=
  ∃ s, e = .returned (.tuple #[.string s, .bool (decide ((TX N i).length ≤ 4096))]) ∧ Hid ((TX N i).length ≤ 4096 → s = ⟨(TX N i).toArray⟩) ∧ Hid (Below w.heap.size w w')

theorem bx_below (w : World) (n : Nd) {W : World} (b : Below (w.alloc (.cells #[.int .i64 n.op, .int .i64 n.wd, .int .i64 n.a, .int .i64 n.b, .int .i64 n.c, .int .u64 n.v] 63)).heap.size (w.alloc (.cells #[.int .i64 n.op, .int .i64 n.wd, .int .i64 n.a, .int .i64 n.b, .int .i64 n.c, .int .u64 n.v] 63)) W) : Bx W w.heap.size n := by
  show _ = _
  rw [b.block _ (by simp)]
  exact new_same w _

theorem leaf_yes {N : List Nd} (r : Wl N) (g : Gd N) {i : Nat} (hi : i < N.length) (ho : (ndA N i).op = 20 ∨ (ndA N i).op = 21) : decide ((TX N i).length ≤ 4096) = true := by
  have := leaf_len r g hi ho
  simp; omega

set_option maxHeartbeats 8000000 in
theorem rshow_const {N : List Nd} (r : Wl N) (g : Gd N) {i : Nat} (hi : i < N.length) (n : Nd) (hn : ndA N i = n) (o0 : n.op = 20) (aA aF : Option Addr) (cA cF : Nat) (w : World) :
    Calls Tryd.prog 23 #[.agg #[.int .i64 n.op, .int .i64 n.wd, .int .i64 n.a, .int .i64 n.b, .int .i64 n.c, .int .u64 n.v], .slice aA i cA, .slice aF i cF] w fun e w' => ShEnd N i w e w' := by
  have hft : Ft n := by rw [← hn]; exact g.ft _ (ndA_mem (isN_nat hi))
  have hwd : 1 ≤ n.wd ∧ n.wd ≤ 64 := by rw [← hn]; exact g.wd _ (ndA_mem (isN_nat hi))
  have HT : Hid (TX N i = dgs n.v ++ [58] ++ dgs n.wd) := hid (by have e := TX_const r g hi (by rw [hn]; exact o0); rw [hn] at e; exact e)
  have HL := hid (leaf_yes r g hi (.inl (by rw [hn]; exact o0)))
  have f1 := hft.2.2.2.2.2
  have lv := dgs_len f1.2
  have lw := dgs_len (x := n.wd) (by omega)
  obtain ⟨p, hp⟩ : ∃ p, Hid (p = dgs n.v) := ⟨_, hid rfl⟩
  obtain ⟨q, hq⟩ : ∃ q, Hid (q = p ++ [58]) := ⟨_, hid rfl⟩
  obtain ⟨d, hd⟩ : ∃ d, Hid (d = dgs n.wd) := ⟨_, hid rfl⟩
  obtain ⟨z, hz⟩ : ∃ z, Hid (z = q ++ d) := ⟨_, hid rfl⟩
  have lp : p.length ≤ 20 := by rw [hp.out]; exact lv
  have ld : d.length ≤ 20 := by rw [hd.out]; exact lw
  have add1 := add_text p [58] (by omega) (by decide)
  have add2 := add_text q d (by rw [hq.out]; simp; omega) (by omega)
  rw [← hq.out] at add1
  rw [← hz.out] at add2
  have HD1 : ∀ W, Calls Tryd.prog 48 #[.int .u64 n.v] W fun e w' => e = .returned (.string ⟨p.toArray⟩) ∧ Hid (Below W.heap.size W w') := fun W => by rw [hp.out]; exact rdigits_any n.v f1.1 f1.2 W
  have HD2 : ∀ W, Calls Tryd.prog 49 #[.int .i64 n.wd] W fun e w' => e = .returned (.string ⟨d.toArray⟩) ∧ Hid (Below W.heap.size W w') := fun W => by rw [hd.out]; exact rnumber_any n.wd (by omega) (by omega) W
  have D1 := hid HD1
  have D2 := hid HD2
  have HZ : Hid (z = TX N i) := hid (by rw [HT.out, hz.out, hq.out, hp.out, hd.out])
  have q20 : (n.op == 20) = true := by simp [o0]
  have O0 := hid o0
  clear hft hwd f1 lv lw HD1 HD2 HT hp hq hd hz o0 lp ld hn
  go_enter Tryd.func23, Tryd.ntmps23
  go_upto_region 3 with fail
  have K0 : Hid (∀ W, Below (w.alloc (.cells #[.int .i64 n.op, .int .i64 n.wd, .int .i64 n.a, .int .i64 n.b, .int .i64 n.c, .int .u64 n.v] 63)).heap.size (w.alloc (.cells #[.int .i64 n.op, .int .i64 n.wd, .int .i64 n.a, .int .i64 n.b, .int .i64 n.c, .int .u64 n.v] 63)) W → W.cell? ⟨w.heap.size, 5, none⟩ = some (.int .u64 n.v) ∧ W.cell? ⟨w.heap.size, 1, none⟩ = some (.int .i64 n.wd)) := hid (fun W b => by
    obtain ⟨s0, s1, s2, s3, s4, s5⟩ := (bx_below w n b).six
    exact ⟨s5, s1⟩)
  go_region_held3 (fun W => W.cell? ⟨w.heap.size, 5, none⟩ = some (.int .u64 n.v) ∧ W.cell? ⟨w.heap.size, 1, none⟩ = some (.int .i64 n.wd)) (first | exact K0.out _ (below_drew _) | exact K0.out _ (Below.next (below_drew _) b2.out) | exact K0.out _ (Below.next (below_drew _) (Below.next b2.out b3.out))) (first
    | (go_at_call 48; with_reducible (refine (D1.out _).mono ?_); rintro e w2 ⟨rfl, b2⟩)
    | (go_at_call 49; with_reducible (refine (D2.out _).mono ?_); rintro e w3 ⟨rfl, b3⟩))
  go_wp2_with fail
  go_ret2
  exact ⟨_, by rw [HL.out]; rfl, hid (fun _ => by rw [HZ.out]), hid (Below.next (new_b w _) (Below.next (below_drew _) (Below.next b2.out b3.out)))⟩

set_option maxHeartbeats 8000000 in
theorem rshow_var {N : List Nd} (r : Wl N) (g : Gd N) {i : Nat} (hi : i < N.length) (n : Nd) (hn : ndA N i = n) (o1 : n.op = 21) (aA aF : Option Addr) (cA cF : Nat) (w : World) :
    Calls Tryd.prog 23 #[.agg #[.int .i64 n.op, .int .i64 n.wd, .int .i64 n.a, .int .i64 n.b, .int .i64 n.c, .int .u64 n.v], .slice aA i cA, .slice aF i cF] w fun e w' => ShEnd N i w e w' := by
  have hft : Ft n := by rw [← hn]; exact g.ft _ (ndA_mem (isN_nat hi))
  have hwd : 1 ≤ n.wd ∧ n.wd ≤ 64 := by rw [← hn]; exact g.wd _ (ndA_mem (isN_nat hi))
  have hv : 0 ≤ n.a ∧ n.a < 256 := by have := g.vr _ (ndA_mem (isN_nat hi)); rw [hn] at this; exact this o1
  have HT : Hid (TX N i = [120] ++ dgs n.a ++ [58] ++ dgs n.wd) := hid (by have e := TX_var r g hi (by rw [hn]; exact o1); rw [hn] at e; exact e)
  have HL := hid (leaf_yes r g hi (.inr (by rw [hn]; exact o1)))
  have lv := dgs_len (x := n.a) (by omega)
  have lw := dgs_len (x := n.wd) (by omega)
  obtain ⟨p, hp⟩ : ∃ p, Hid (p = dgs n.a) := ⟨_, hid rfl⟩
  obtain ⟨x, hx⟩ : ∃ x, Hid (x = [120] ++ p) := ⟨_, hid rfl⟩
  obtain ⟨q, hq⟩ : ∃ q, Hid (q = x ++ [58]) := ⟨_, hid rfl⟩
  obtain ⟨d, hd⟩ : ∃ d, Hid (d = dgs n.wd) := ⟨_, hid rfl⟩
  obtain ⟨z, hz⟩ : ∃ z, Hid (z = q ++ d) := ⟨_, hid rfl⟩
  have lp : p.length ≤ 20 := by rw [hp.out]; exact lv
  have lx : x.length ≤ 30 := by rw [hx.out]; simp; omega
  have ld : d.length ≤ 20 := by rw [hd.out]; exact lw
  have add0 := add_text [120] p (by decide) (by omega)
  have add1 := add_text x [58] (by omega) (by decide)
  have add2 := add_text q d (by rw [hq.out]; simp; omega) (by omega)
  rw [← hx.out] at add0
  rw [← hq.out] at add1
  rw [← hz.out] at add2
  have HD1 : ∀ W, Calls Tryd.prog 49 #[.int .i64 n.a] W fun e w' => e = .returned (.string ⟨p.toArray⟩) ∧ Hid (Below W.heap.size W w') := fun W => by rw [hp.out]; exact rnumber_any n.a hv.1 (by omega) W
  have HD2 : ∀ W, Calls Tryd.prog 49 #[.int .i64 n.wd] W fun e w' => e = .returned (.string ⟨d.toArray⟩) ∧ Hid (Below W.heap.size W w') := fun W => by rw [hd.out]; exact rnumber_any n.wd (by omega) (by omega) W
  have D1 := hid HD1
  have D2 := hid HD2
  have HZ : Hid (z = TX N i) := hid (by rw [HT.out, hz.out, hq.out, hx.out, hp.out, hd.out])
  have q20 : (n.op == 20) = false := by simp [o1]
  have q21 : (n.op == 21) = true := by simp [o1]
  have O0 := hid o1
  clear hft hwd hv lv lw HD1 HD2 HT hp hq hd hz hx o1 lp ld lx hn
  go_enter Tryd.func23, Tryd.ntmps23
  go_upto_region 5 with fail
  have K0 : Hid (∀ W, Below (w.alloc (.cells #[.int .i64 n.op, .int .i64 n.wd, .int .i64 n.a, .int .i64 n.b, .int .i64 n.c, .int .u64 n.v] 63)).heap.size (w.alloc (.cells #[.int .i64 n.op, .int .i64 n.wd, .int .i64 n.a, .int .i64 n.b, .int .i64 n.c, .int .u64 n.v] 63)) W → W.cell? ⟨w.heap.size, 2, none⟩ = some (.int .i64 n.a) ∧ W.cell? ⟨w.heap.size, 1, none⟩ = some (.int .i64 n.wd)) := hid (fun W b => by
    obtain ⟨s0, s1, s2, s3, s4, s5⟩ := (bx_below w n b).six
    exact ⟨s2, s1⟩)
  go_region_held3 (fun W => W.cell? ⟨w.heap.size, 2, none⟩ = some (.int .i64 n.a) ∧ W.cell? ⟨w.heap.size, 1, none⟩ = some (.int .i64 n.wd)) (first | exact K0.out _ (below_drew _) | exact K0.out _ (Below.next (below_drew _) b2.out) | exact K0.out _ (Below.next (below_drew _) (Below.next b2.out b3.out))) (first
    | (go_at_call 49; with_reducible (refine (D1.out _).mono ?_); rintro e w2 ⟨rfl, b2⟩)
    | (go_at_call 49; with_reducible (refine (D2.out _).mono ?_); rintro e w3 ⟨rfl, b3⟩))
  go_wp2_with fail
  go_ret2
  exact ⟨_, by rw [HL.out]; rfl, hid (fun _ => by rw [HZ.out]), hid (Below.next (new_b w _) (Below.next (below_drew _) (Below.next b2.out b3.out)))⟩

end Go.Proofs.YtefielnmlekhaaaDoor
