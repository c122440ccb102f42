/-
  The walk of SatSound.
  What Solve answers, in one form.
  The walk of SatAgain, where nothing is searched.
-/
import Derived.Test.YtimfjoinjfecjaaGreatQ47
import Derived.Test.YtimfjoinjfecjaaGreatQ51

namespace Go.Proofs.YtimfjoinjfecjaaGreat
open Go.RowKit Go.Maps
set_option linter.unusedVariables false

/-- Clauses that may be, as their literals are. -/
theorem chk_parts {vars : Int} {l : List (List Int)} (h : U.chkF vars l = 0) : ∃ n : Nat, vars = n ∧ ∀ c ∈ l, ∀ y ∈ c, 0 ≤ y ∧ y < 2 * (n : Int) := by
  have h1 : ¬ (vars < 0 ∨ 1048576 < vars) := fun q => by rw [U.chk_low l q] at h; omega
  have h2 : ¬ 1048576 < l.length := fun q => by rw [U.chk_many (by omega) (by omega) q] at h; omega
  have h3 : U.badG vars l = false := by
    cases q : U.badG vars l
    · rfl
    · rw [U.chk_bad (by omega) (by omega) h2 q] at h; omega
  obtain ⟨n, rfl⟩ : ∃ n : Nat, vars = n := ⟨vars.toNat, by omega⟩
  refine ⟨n, rfl, fun c hc y hy => ?_⟩
  have h4 : U.badC n c = false := by
    have := List.any_eq_false.1 (show l.any (U.badC n) = false from h3) c hc
    simpa using this
  obtain ⟨a1, a2, a3, a4⟩ := U.good_lit h4 hy
  omega

theorem few_parts {z : List (List Int)} {m : Nat} (h : ¬ U.fewF z (m : Nat) = 0) : z.length ≤ m ∧ ∀ c ∈ z, c.length ≤ 40 := ⟨U.few_len h, U.few_short h⟩

section
variable {w : World} {a : Option Addr} {len cap : Nat} {z : List (List Int)}

theorem SolEnd.out {al : Bool} {n bud : Nat} {r : Value} {w' : World} (h : SolEnd al n z bud w r w') :
  (∃ (tb cf : Nat) (tr : List Bool), r = .agg #[.int .i64 1, .slice (some ⟨tb, 0, none⟩) n n, .int .i64 cf, .slice none 0 0] ∧ Hid (Below w.heap.size w w') ∧ Hid (w'.heap[tb]? = some (.cells (tr.map Value.bool).toArray 4 (0, 0))) ∧ Hid (tr.length = n ∧ cf ≤ bud ∧ ∀ c ∈ z, ∃ x ∈ c, tr[vl x]? = some (!decide (x % 2 = 1)) ∧ 0 ≤ x)) ∨
  (∃ (a : Option Addr) (k cp cf : Nat) (P : List (List Int)), r = .agg #[.int .i64 2, .slice none 0 0, .int .i64 cf, .slice a k cp] ∧ Hid (Below w.heap.size w w') ∧ Hid (U.Grid w' a k cp (P ++ [[]])) ∧ Hid (cf = P.length ∧ cf ≤ bud ∧ Fin al n z P ∧ U.Stp (z ++ P) [])) ∨
  (∃ P : List (List Int), r = .agg #[.int .i64 0, .slice none 0 0, .int .i64 bud, .slice none 0 0] ∧ Hid (Below w.heap.size w w') ∧ Hid (P.length = bud ∧ Fin al n z P)) := h

end
end Go.Proofs.YtimfjoinjfecjaaGreat

namespace Go.Proofs.YtimfjoinjfecjaaGreat
open Go.RowKit Go.Maps
set_option linter.unusedVariables false

/-- An answer, and where its lists lie. -/
structure Ax (n bud : Nat) (l : List (List Int)) (w : World) (st : Int) (a1 : Option Addr) (n1 c1 cf : Nat) (a3 : Option Addr) (n3 c3 : Nat) (P : List (List Int)) (t : List Bool) : Prop where
  at_ : At n bud l cf P st t
  md : U.IsBools w a1 n1 c1 (fun i => t.getD i false)
  mn : n1 = if st = 1 then n else 0
  pf : U.Grid w a3 n3 c3 (if st = 2 then P ++ [[]] else [])

theorem grid_nil (w : World) : U.Grid w none 0 0 [] := ⟨rfl, Nat.le_refl _, by unfold maxLen; omega, fun _ => rfl, fun h => by omega⟩

theorem again_K {n L b : Nat} (hn : n ≤ 40) (hL : L ≤ 60) (hb : b ≤ 255) : L + (b * (3 * n + 9) + (n + 1)) * (n * (L + b) + 2) ≤ 250000000000 := by
  have a0 : b * (3 * n + 9) ≤ 255 * 129 := Nat.mul_le_mul hb (by omega)
  have a1 : b * (3 * n + 9) + (n + 1) ≤ 32936 := by omega
  have a2 : n * (L + b) ≤ 40 * 315 := Nat.mul_le_mul hn (by omega)
  have a3 : n * (L + b) + 2 ≤ 12602 := by omega
  have := Nat.mul_le_mul a1 a3
  omega

theorem sol_x {w : World} {a : Option Addr} {len cap : Nat} {z : List (List Int)} {n bud : Nat} (hg : U.Grid w a len cap z) (hc : U.chkF n z = 0) (hz : z.length ≤ 60) (hs : ∀ c ∈ z, c.length ≤ 40) (hn : n ≤ 40) (hb : bud ≤ 255) :
    Calls Tryz.prog 9 #[.int .i64 n, .slice a len cap, .int .i64 bud] w fun e w' => ∃ (st : Int) (a1 : Option Addr) (n1 c1 cf : Nat) (a3 : Option Addr) (n3 c3 : Nat) (P : List (List Int)) (t : List Bool), e = .returned (.tuple #[.agg #[.int .i64 st, .slice a1 n1 c1, .int .i64 cf, .slice a3 n3 c3], .int .i64 0]) ∧ Hid (Below w.heap.size w w') ∧ Hid (Ax n bud z w' st a1 n1 c1 cf a3 n3 c3 P t) := by
  obtain ⟨m, hm, hx⟩ := chk_parts hc
  have hmn : n = m := by omega
  subst hmn
  have hl := hg.1
  refine (solve_ex (bud := bud) a len cap hg hc (fun c hc => ⟨by have := hs c hc; omega, hx c hc⟩) (by omega) (by omega) (by omega) (again_K hn hz hb) hb).mono fun e w' h => ?_
  obtain ⟨r, rfl, h⟩ := h
  rcases h with ⟨tb, cf, tr, rfl, hb, ht, hm⟩ | ⟨pa, k, cp, cf, P, rfl, hb, hgr, hp⟩ | ⟨P, rfl, hb, hp⟩
  · obtain ⟨h1, P, h2⟩ := hm.out
    exact ⟨1, _, _, _, cf, _, _, _, P, tr, rfl, hb, hid ⟨h2, bools_blk ht.out h1 (by omega), rfl, grid_nil _⟩⟩
  · exact ⟨2, _, _, _, cf, _, _, _, P, [], rfl, hb, hid ⟨hp.out, .inl ⟨rfl, rfl, rfl⟩, rfl, hgr.out⟩⟩
  · exact ⟨0, _, _, _, bud, _, _, _, P, [], rfl, hb, hid ⟨hp.out, .inl ⟨rfl, rfl, rfl⟩, rfl, grid_nil _⟩⟩
end Go.Proofs.YtimfjoinjfecjaaGreat

namespace Go.Proofs.YtimfjoinjfecjaaGreat
open Go.RowKit Go.Maps
set_option linter.unusedVariables false

theorem bools_none (w : World) : U.IsBools w none 0 0 (fun _ => false) := .inl ⟨rfl, rfl, rfl⟩

section
variable {w : World} {a : Option Addr} {len cap : Nat} {z : List (List Int)}
set_option maxRecDepth 20000 in
set_option maxHeartbeats 8000000 in
theorem again_bad (vars : Int) (x y : Nat) (hg : U.Grid w a len cap z) (wv : -9223372036854775808 ≤ vars ∧ vars ≤ 9223372036854775807) (hx : x ≤ 255) (hy : y ≤ 255) (hbad : U.fewF z 60 = 0 ∨ 40 < vars ∨ ¬ U.chkF vars z = 0) :
    Calls Tryz.prog 6 #[.int .i64 vars, .slice a len cap, .agg #[.int .u8 x, .int .u8 y]] w fun e w' => e = .returned (.bool true) ∧ Below w.heap.size w w' := by
  have HB0 := hid (alloc_below w (.cells #[.int .u8 x, .int .u8 y] 39))
  have HG := hid (hg.keep HB0.out)
  clear hg
  by_cases hf : U.fewF z 60 = 0
  · have HF := hid hf
    clear hf hbad
    go_enter Tryz.func6, Tryz.ntmps6
    go_wp2_with (first
      | (go_at_call 7; with_reducible (refine (U.few_any _ _ _ _ _ _ HG.out).mono ?_); rw [HF.out]; rintro e w1 ⟨rfl, e1⟩; subst e1)
      | (go_at_call 8; with_reducible (refine (awake_is _).mono ?_); rintro e w2 ⟨rfl, b2⟩))
    go_ret
    exact ⟨rfl, Below.next HB0.out b2.out⟩
  · obtain ⟨fz, hfz⟩ : ∃ fz, U.fewF z 60 = fz := ⟨_, rfl⟩
    have hbad2 : 40 < vars ∨ ¬ U.chkF vars z = 0 := hbad.resolve_left hf
    rw [hfz] at hf
    have hf0 : (fz == 0) = false := by rw [beq_eq_false_iff_ne]; exact hf
    have HF := hid hfz
    clear hfz hbad
    by_cases hv : 40 < vars
    · clear hbad2
      go_enter Tryz.func6, Tryz.ntmps6
      go_wp2_with (first
        | (go_at_call 7; with_reducible (refine (U.few_any _ _ _ _ _ _ HG.out).mono ?_); rw [HF.out]; rintro e w1 ⟨rfl, e1⟩; subst e1)
        | (go_at_call 8; with_reducible (refine (awake_is _).mono ?_); rintro e w2 ⟨rfl, b2⟩))
      go_ret
      exact ⟨rfl, Below.next HB0.out b2.out⟩
    · have HCN := hid (hbad2.resolve_left hv)
      obtain ⟨ck, hck⟩ : ∃ ck, U.chkF vars z = ck := ⟨_, rfl⟩
      have HC := hid hck
      clear hbad2 hck
      obtain ⟨n, hn⟩ : ∃ n, min x y = n := ⟨_, rfl⟩
      have mn : ∀ W, (Builtin.min_ #[3, 3] 3 #[.int .i64 x, .int .i64 y]).run Tryz.prog W = .ok (.int .i64 (n : Nat)) W := fun W => by rw [← hn]; exact min_is W x y
      clear hn
      go_enter Tryz.func6, Tryz.ntmps6
      go_wp2_with (first
        | (go_at_call 7; with_reducible (refine (U.few_any _ _ _ _ _ _ HG.out).mono ?_); rw [HF.out]; rintro e w1 ⟨rfl, e1⟩; subst e1)
        | (go_at_call 9; with_reducible (refine (solve_bad _ _ _ _ _ HG.out HCN.out).mono ?_); rw [HC.out]; rintro e w2 ⟨rfl, b2⟩; have HG2 := hid (HG.out.keep (Below.next b2.out (alloc_below w2 (.cells #[.int .i64 0, .slice none 0 0, .int .i64 0, .slice none 0 0] 27)))))
        | (go_at_call 9; with_reducible (refine (solve_bad _ _ _ _ _ HG2.out HCN.out).mono ?_); rw [HC.out]; rintro e w3 ⟨rfl, b3⟩; have HG3 := hid (HG2.out.keep (Below.next b3.out (alloc_below w3 (.cells #[.int .i64 0, .slice none 0 0, .int .i64 0, .slice none 0 0] 27)))))
        | (go_at_call 9; with_reducible (refine (solve_bad _ _ _ _ _ HG3.out HCN.out).mono ?_); rw [HC.out]; rintro e w4 ⟨rfl, b4⟩; have KA := hid (old_blk (Below.next (Below.next b3.out (alloc_below w3 (.cells #[.int .i64 0, .slice none 0 0, .int .i64 0, .slice none 0 0] 27))) (Below.next b4.out (alloc_below w4 (.cells #[.int .i64 0, .slice none 0 0, .int .i64 0, .slice none 0 0] 27)))) (new_same w2 (.cells #[.int .i64 0, .slice none 0 0, .int .i64 0, .slice none 0 0] 27))); have KB := hid (old_blk (Below.next b4.out (alloc_below w4 (.cells #[.int .i64 0, .slice none 0 0, .int .i64 0, .slice none 0 0] 27))) (new_same w3 (.cells #[.int .i64 0, .slice none 0 0, .int .i64 0, .slice none 0 0] 27))); have p0 : (w4.alloc (.cells #[.int .i64 0, .slice none 0 0, .int .i64 0, .slice none 0 0] 27)).cell? ⟨w2.heap.size, 0, none⟩ = some (.int .i64 0) := cell_of KA.out; have p1 : (w4.alloc (.cells #[.int .i64 0, .slice none 0 0, .int .i64 0, .slice none 0 0] 27)).cell? ⟨w2.heap.size, 1, none⟩ = some (.slice none 0 0) := cell_of KA.out; have p2 : (w4.alloc (.cells #[.int .i64 0, .slice none 0 0, .int .i64 0, .slice none 0 0] 27)).cell? ⟨w2.heap.size, 2, none⟩ = some (.int .i64 0) := cell_of KA.out; have p3 : (w4.alloc (.cells #[.int .i64 0, .slice none 0 0, .int .i64 0, .slice none 0 0] 27)).cell? ⟨w2.heap.size, 3, none⟩ = some (.slice none 0 0) := cell_of KA.out; have q0 : (w4.alloc (.cells #[.int .i64 0, .slice none 0 0, .int .i64 0, .slice none 0 0] 27)).cell? ⟨w3.heap.size, 0, none⟩ = some (.int .i64 0) := cell_of KB.out; have q1 : (w4.alloc (.cells #[.int .i64 0, .slice none 0 0, .int .i64 0, .slice none 0 0] 27)).cell? ⟨w3.heap.size, 1, none⟩ = some (.slice none 0 0) := cell_of KB.out; have q2 : (w4.alloc (.cells #[.int .i64 0, .slice none 0 0, .int .i64 0, .slice none 0 0] 27)).cell? ⟨w3.heap.size, 2, none⟩ = some (.int .i64 0) := cell_of KB.out; have q3 : (w4.alloc (.cells #[.int .i64 0, .slice none 0 0, .int .i64 0, .slice none 0 0] 27)).cell? ⟨w3.heap.size, 3, none⟩ = some (.slice none 0 0) := cell_of KB.out; have BB := hid (bools_none (w4.alloc (.cells #[.int .i64 0, .slice none 0 0, .int .i64 0, .slice none 0 0] 27))))
        | (go_at_call 14; with_reducible (refine (U.bools_same _ _ _ _ _ _ _ BB.out BB.out (by decide)).mono ?_); rintro e w5 ⟨rfl, b5⟩; have B5 := hid b5; have s0 := bl_cell b5 p0; have s3 := bl_cell b5 p3; have s7 := bl_cell b5 q3; clear b5)
        | (go_at_call 15; with_reducible (refine (all_same _ _ _ _ _ _ _ (grid_nil _) (grid_nil _)).mono ?_); rintro e w6 ⟨rfl, b6⟩; have s1 := bl_cell b6.out s0)
        | (go_at_call 8; with_reducible (refine (awake_is _).mono ?_); rintro e w7 ⟨rfl, b7⟩)
        | fail)
      all_goals go_ret
      all_goals exact ⟨rfl, Below.next (Below.next (Below.next (Below.next (Below.next (Below.next (Below.next (Below.next (Below.next HB0.out b2.out) (alloc_below _ _)) b3.out) (alloc_below _ _)) b4.out) (alloc_below _ _)) B5.out) b6.out) b7.out⟩
end
end Go.Proofs.YtimfjoinjfecjaaGreat
