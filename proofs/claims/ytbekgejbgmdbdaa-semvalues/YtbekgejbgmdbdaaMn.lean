/-
  meaning: the word of a term, of those of its parts.
-/
import Derived.Test.YtbekgejbgmdbdaaPm
namespace Go.Proofs.Ytbekgejbgmdbdaa
open Go.RowKit Go.Maps
set_option linter.unusedVariables false
set_option maxRecDepth 20000

theorem two_new (w : World) (v0 v1 v2 v3 v4 v5 x0 x1 x2 : Value) :
    ((w.alloc (.cells #[v0, v1, v2, v3, v4, v5] 61)).alloc (.cells #[x0, x1, x2] 64)).heap[w.heap.size]? = some (.cells #[v0, v1, v2, v3, v4, v5] 61 (0, 0)) ∧ ((w.alloc (.cells #[v0, v1, v2, v3, v4, v5] 61)).alloc (.cells #[x0, x1, x2] 64)).heap[w.heap.size + 1]? = some (.cells #[x0, x1, x2] 64 (0, 0)) := by
  have b : Below (w.alloc (.cells #[v0, v1, v2, v3, v4, v5] 61)).heap.size (w.alloc (.cells #[v0, v1, v2, v3, v4, v5] 61)) ((w.alloc (.cells #[v0, v1, v2, v3, v4, v5] 61)).alloc (.cells #[x0, x1, x2] 64)) := by go_grown
  refine ⟨by rw [b.block _ (by simp)]; exact new_same _ _, ?_⟩
  have := new_same (w.alloc (.cells #[v0, v1, v2, v3, v4, v5] 61)) (.cells #[x0, x1, x2] 64)
  simpa using this

theorem shr_bd {p b : Int} (hp : 0 ≤ p ∧ p < 18446744073709551616) : 0 ≤ p / 2 ^ b.toNat ∧ p / 2 ^ b.toNat < 18446744073709551616 := by
  have h := pos2 b.toNat
  exact ⟨Int.ediv_nonneg hp.1 (by omega), Int.lt_of_le_of_lt (Int.ediv_le_self _ hp.1) hp.2⟩

section
variable {k : K} {w : World} {N : List Nd} {P : Nat → Prop} {a : Option Addr} {len cap : Nat} {E : List Int}

theorem mn20 (s : Dg k w N P) (hE : Us w a len E) (wd na nb nc nv p q r : Int) :
    Calls Try.prog 29 #[.pointer (some ⟨k.DB, 0, none⟩), .agg #[.int .i64 20, .int .i64 wd, .int .i64 na, .int .i64 nb, .int .i64 nc, .int .u64 nv], .agg #[.int .u64 p, .int .u64 q, .int .u64 r], .slice a len cap] w fun e w' => e = .returned (.int .u64 nv) ∧ Hid (Below w.heap.size w w') := by
  clear s hE
  go_enter Try.func29, Try.ntmps29
  go_wp2
  go_ret
  exact ⟨rfl, hid (by go_grown)⟩
theorem mn25 (s : Dg k w N P) (hE : Us w a len E) (wd na nb nc nv p q r : Int) :
    Calls Try.prog 29 #[.pointer (some ⟨k.DB, 0, none⟩), .agg #[.int .i64 25, .int .i64 wd, .int .i64 na, .int .i64 nb, .int .i64 nc, .int .u64 nv], .agg #[.int .u64 p, .int .u64 q, .int .u64 r], .slice a len cap] w fun e w' => e = .returned (.int .u64 p) ∧ Hid (Below w.heap.size w w') := by
  clear s hE
  go_enter Try.func29, Try.ntmps29
  go_wp2
  go_ret
  exact ⟨rfl, hid (by go_grown)⟩
theorem mn22 (s : Dg k w N P) (hE : Us w a len E) (wd na nb nc nv p q r : Int) {x : Int} (hx : (if p = 1 then q else r) = x) :
    Calls Try.prog 29 #[.pointer (some ⟨k.DB, 0, none⟩), .agg #[.int .i64 22, .int .i64 wd, .int .i64 na, .int .i64 nb, .int .i64 nc, .int .u64 nv], .agg #[.int .u64 p, .int .u64 q, .int .u64 r], .slice a len cap] w fun e w' => e = .returned (.int .u64 x) ∧ Hid (Below w.heap.size w w') := by
  clear s hE
  by_cases h1 : p = 1
  · rw [if_pos h1] at hx
    subst hx h1
    go_enter Try.func29, Try.ntmps29
    go_wp2
    go_ret
    exact ⟨rfl, hid (by go_grown)⟩
  · rw [if_neg h1] at hx
    subst hx
    have h2 := ne_b h1
    clear h1
    go_enter Try.func29, Try.ntmps29
    go_wp2
    go_ret
    exact ⟨rfl, hid (by go_grown)⟩

theorem mn21 (s : Dg k w N P) (hE : Us w a len E) (wd na nb nc nv p q r : Int) (ha : 0 ≤ na) {x : Int} (hx : cutF wd (enF E na) = x) :
    Calls Try.prog 29 #[.pointer (some ⟨k.DB, 0, none⟩), .agg #[.int .i64 21, .int .i64 wd, .int .i64 na, .int .i64 nb, .int .i64 nc, .int .u64 nv], .agg #[.int .u64 p, .int .u64 q, .int .u64 r], .slice a len cap] w fun e w' => e = .returned (.int .u64 x) ∧ Hid (Below w.heap.size w w') := by
  obtain ⟨y, hy⟩ : ∃ y, enF E na = y := ⟨_, rfl⟩
  have HY := hid hy
  have HE := hid hE
  have hb := enF_bd hE na
  rw [hy] at hx hb
  subst hx
  clear s hE hy
  go_enter Try.func29, Try.ntmps29
  go_upto_region 5 with fail
  obtain ⟨z1, z2⟩ := two_new w (.int .i64 21) (.int .i64 wd) (.int .i64 na) (.int .i64 nb) (.int .i64 nc) (.int .u64 nv) (.int .u64 p) (.int .u64 q) (.int .u64 r)
  have L4 : Hid (Below w.heap.size w ((w.alloc (.cells #[.int .i64 21, .int .i64 wd, .int .i64 na, .int .i64 nb, .int .i64 nc, .int .u64 nv] 61)).alloc (.cells #[.int .u64 p, .int .u64 q, .int .u64 r] 64))) := hid (by go_grown)
  revert z1 z2 L4
  generalize (w.alloc (.cells #[.int .i64 21, .int .i64 wd, .int .i64 na, .int .i64 nb, .int .i64 nc, .int .u64 nv] 61)).alloc (.cells #[.int .u64 p, .int .u64 q, .int .u64 r] 64) = w4
  intro z1 z2 L4
  have E4 := hid (HE.out.below L4.out)
  have c1 : ∀ y : BW w4, y.w.cell? ⟨w.heap.size, 1, none⟩ = some (.int .i64 wd) := BW.cell (by rw [cell_of z1]; rfl)
  have c2 : ∀ y : BW w4, y.w.cell? ⟨w.heap.size, 2, none⟩ = some (.int .i64 na) := BW.cell (by rw [cell_of z1]; rfl)
  clear z1 z2 HE
  haveI : Inhabited (BW w4) := ⟨⟨w4, Below.refl _ _⟩⟩
  refine wp_region_below (by kernel_rfl) (by kernel_rfl) ?_
  repeat (go_big_quiet_step (first
    | (go_at_call 60; exact bw_same (at_any (E4.out.below (BW.be _)) ha HY.out))
    | (go_at_call 39; exact bw_same (cut_any _ _ _ hb.1 hb.2))
    | fail))
  refine wpQuiet_nil ?_
  intro _ hw
  obtain ⟨yy, hw2⟩ := hw
  subst hw2
  go_wp2_with fail
  go_ret
  exact ⟨rfl, hid (Below.next L4.out yy.be)⟩
theorem mn23 (s : Dg k w N P) (hE : Us w a len E) (wd na nb nc nv p q r : Int) (hp : 0 ≤ p ∧ p < 18446744073709551616) (hq : 0 ≤ q ∧ q < 18446744073709551616) (h0 : 0 ≤ nb) (h1 : nb < 64) {x : Int} (hx : cutF wd (p / 2 ^ nb.toNat) = x) :
    Calls Try.prog 29 #[.pointer (some ⟨k.DB, 0, none⟩), .agg #[.int .i64 23, .int .i64 wd, .int .i64 na, .int .i64 nb, .int .i64 nc, .int .u64 nv], .agg #[.int .u64 p, .int .u64 q, .int .u64 r], .slice a len cap] w fun e w' => e = .returned (.int .u64 x) ∧ Hid (Below w.heap.size w w') := by
  have HS := hid s
  clear s hE
  have hb := shr_bd (b := nb) hp
  subst hx
  go_enter Try.func29, Try.ntmps29
  go_upto_region 11 with fail
  obtain ⟨z1, z2⟩ := two_new w (.int .i64 23) (.int .i64 wd) (.int .i64 na) (.int .i64 nb) (.int .i64 nc) (.int .u64 nv) (.int .u64 p) (.int .u64 q) (.int .u64 r)
  have L4 : Hid (Below w.heap.size w ((w.alloc (.cells #[.int .i64 23, .int .i64 wd, .int .i64 na, .int .i64 nb, .int .i64 nc, .int .u64 nv] 61)).alloc (.cells #[.int .u64 p, .int .u64 q, .int .u64 r] 64))) := hid (by go_grown)
  revert z1 z2 L4
  generalize (w.alloc (.cells #[.int .i64 23, .int .i64 wd, .int .i64 na, .int .i64 nb, .int .i64 nc, .int .u64 nv] 61)).alloc (.cells #[.int .u64 p, .int .u64 q, .int .u64 r] 64) = w4
  intro z1 z2 L4
  have S4 := hid (HS.out.below L4.out)
  have c1 : ∀ y : BW w4, y.w.cell? ⟨w.heap.size, 1, none⟩ = some (.int .i64 wd) := BW.cell (by rw [cell_of z1]; rfl)
  have c3 : ∀ y : BW w4, y.w.cell? ⟨w.heap.size, 3, none⟩ = some (.int .i64 nb) := BW.cell (by rw [cell_of z1]; rfl)
  have d0 : ∀ y : BW w4, y.w.cell? ⟨w.heap.size + 1, 0, none⟩ = some (.int .u64 p) := BW.cell (by rw [cell_of z2]; rfl)
  clear z1 z2 HS
  haveI : Inhabited (BW w4) := ⟨⟨w4, Below.refl _ _⟩⟩
  refine wp_region_below (by kernel_rfl) (by kernel_rfl) ?_
  repeat (go_big_quiet_step (first
    | (go_at_call 39; exact bw_same (cut_any _ _ _ hb.1 hb.2))
    | fail))
  refine wpQuiet_nil ?_
  intro _ hw
  obtain ⟨yy, hw2⟩ := hw
  subst hw2
  go_wp2_with fail
  go_ret
  exact ⟨rfl, hid (Below.next L4.out yy.be)⟩

theorem mn24 (s : Dg k w N P) (hE : Us w a len E) (wd na nb nc nv p q r : Int) (hp : 0 ≤ p ∧ p < 18446744073709551616) (hq : 0 ≤ q ∧ q < 18446744073709551616) {m : Int} (hm : wdF N nb = m) (h0 : 0 ≤ m) (h1 : m < 64) {x : Int} (hx : bits .or .u64 (IntKind.u64.wrap (p * 2 ^ m.toNat)) q = x) :
    Calls Try.prog 29 #[.pointer (some ⟨k.DB, 0, none⟩), .agg #[.int .i64 24, .int .i64 wd, .int .i64 na, .int .i64 nb, .int .i64 nc, .int .u64 nv], .agg #[.int .u64 p, .int .u64 q, .int .u64 r], .slice a len cap] w fun e w' => e = .returned (.int .u64 x) ∧ Hid (Below w.heap.size w w') := by
  have HS := hid s
  clear s hE
  have HM := hid hm
  subst hx
  go_enter Try.func29, Try.ntmps29
  go_upto_region 13 with fail
  obtain ⟨z1, z2⟩ := two_new w (.int .i64 24) (.int .i64 wd) (.int .i64 na) (.int .i64 nb) (.int .i64 nc) (.int .u64 nv) (.int .u64 p) (.int .u64 q) (.int .u64 r)
  have L4 : Hid (Below w.heap.size w ((w.alloc (.cells #[.int .i64 24, .int .i64 wd, .int .i64 na, .int .i64 nb, .int .i64 nc, .int .u64 nv] 61)).alloc (.cells #[.int .u64 p, .int .u64 q, .int .u64 r] 64))) := hid (by go_grown)
  revert z1 z2 L4
  generalize (w.alloc (.cells #[.int .i64 24, .int .i64 wd, .int .i64 na, .int .i64 nb, .int .i64 nc, .int .u64 nv] 61)).alloc (.cells #[.int .u64 p, .int .u64 q, .int .u64 r] 64) = w4
  intro z1 z2 L4
  have S4 := hid (HS.out.below L4.out)
  have c3 : ∀ y : BW w4, y.w.cell? ⟨w.heap.size, 3, none⟩ = some (.int .i64 nb) := BW.cell (by rw [cell_of z1]; rfl)
  have d0 : ∀ y : BW w4, y.w.cell? ⟨w.heap.size + 1, 0, none⟩ = some (.int .u64 p) := BW.cell (by rw [cell_of z2]; rfl)
  have d1 : ∀ y : BW w4, y.w.cell? ⟨w.heap.size + 1, 1, none⟩ = some (.int .u64 q) := BW.cell (by rw [cell_of z2]; rfl)
  clear z1 z2 HS
  haveI : Inhabited (BW w4) := ⟨⟨w4, Below.refl _ _⟩⟩
  refine wp_region_below (by kernel_rfl) (by kernel_rfl) ?_
  repeat (go_big_quiet_step (first
    | (go_at_call 41; exact bw_of (width_is (Dg.below S4.out (BW.be _)) nb HM.out))
    | fail))
  refine wpQuiet_nil ?_
  intro _ hw
  obtain ⟨yy, hw2⟩ := hw
  subst hw2
  go_wp2_with fail
  go_ret
  exact ⟨rfl, hid (Below.next L4.out yy.be)⟩

theorem mn26 (s : Dg k w N P) (hE : Us w a len E) (wd na nb nc nv p q r : Int) (hp : 0 ≤ p ∧ p < 18446744073709551616) (hq : 0 ≤ q ∧ q < 18446744073709551616) {m : Int} (hm : wdF N na = m) {x : Int} (hx : cutF wd (IntKind.u64.wrap (Wd.sgnF m p)) = x) :
    Calls Try.prog 29 #[.pointer (some ⟨k.DB, 0, none⟩), .agg #[.int .i64 26, .int .i64 wd, .int .i64 na, .int .i64 nb, .int .i64 nc, .int .u64 nv], .agg #[.int .u64 p, .int .u64 q, .int .u64 r], .slice a len cap] w fun e w' => e = .returned (.int .u64 x) ∧ Hid (Below w.heap.size w w') := by
  have HS := hid s
  clear s hE
  have HM := hid hm
  have hb := Wd.u64_bd (Wd.sgnF m p)
  subst hx
  go_enter Try.func29, Try.ntmps29
  go_upto_region 17 with fail
  obtain ⟨z1, z2⟩ := two_new w (.int .i64 26) (.int .i64 wd) (.int .i64 na) (.int .i64 nb) (.int .i64 nc) (.int .u64 nv) (.int .u64 p) (.int .u64 q) (.int .u64 r)
  have L4 : Hid (Below w.heap.size w ((w.alloc (.cells #[.int .i64 26, .int .i64 wd, .int .i64 na, .int .i64 nb, .int .i64 nc, .int .u64 nv] 61)).alloc (.cells #[.int .u64 p, .int .u64 q, .int .u64 r] 64))) := hid (by go_grown)
  revert z1 z2 L4
  generalize (w.alloc (.cells #[.int .i64 26, .int .i64 wd, .int .i64 na, .int .i64 nb, .int .i64 nc, .int .u64 nv] 61)).alloc (.cells #[.int .u64 p, .int .u64 q, .int .u64 r] 64) = w4
  intro z1 z2 L4
  have S4 := hid (HS.out.below L4.out)
  have c1 : ∀ y : BW w4, y.w.cell? ⟨w.heap.size, 1, none⟩ = some (.int .i64 wd) := BW.cell (by rw [cell_of z1]; rfl)
  have c2 : ∀ y : BW w4, y.w.cell? ⟨w.heap.size, 2, none⟩ = some (.int .i64 na) := BW.cell (by rw [cell_of z1]; rfl)
  have d0 : ∀ y : BW w4, y.w.cell? ⟨w.heap.size + 1, 0, none⟩ = some (.int .u64 p) := BW.cell (by rw [cell_of z2]; rfl)
  clear z1 z2 HS
  haveI : Inhabited (BW w4) := ⟨⟨w4, Below.refl _ _⟩⟩
  refine wp_region_below (by kernel_rfl) (by kernel_rfl) ?_
  repeat (go_big_quiet_step (first
    | (go_at_call 41; exact bw_of (width_is (Dg.below S4.out (BW.be _)) na HM.out))
    | (go_at_call 61; exact bw_same (Wd.signed_any _ _ _ hp.1 hp.2))
    | (go_at_call 39; exact bw_same (cut_any _ _ _ hb.1 hb.2))
    | fail))
  refine wpQuiet_nil ?_
  intro _ hw
  obtain ⟨yy, hw2⟩ := hw
  subst hw2
  go_wp2_with fail
  go_ret
  exact ⟨rfl, hid (Below.next L4.out yy.be)⟩

theorem mnbin (s : Dg k w N P) (hE : Us w a len E) (op : Int) (wd na nb nc nv p q r : Int) (hp : 0 ≤ p ∧ p < 18446744073709551616) (hq : 0 ≤ q ∧ q < 18446744073709551616) (g1 : 1 ≤ op) (g2 : op ≤ 14) {m : Int} (hm : wdF N na = m) {x : Int} (hx : Wd.binF op m p q = x) :
    Calls Try.prog 29 #[.pointer (some ⟨k.DB, 0, none⟩), .agg #[.int .i64 op, .int .i64 wd, .int .i64 na, .int .i64 nb, .int .i64 nc, .int .u64 nv], .agg #[.int .u64 p, .int .u64 q, .int .u64 r], .slice a len cap] w fun e w' => e = .returned (.int .u64 x) ∧ Hid (Below w.heap.size w w') := by
  have HS := hid s
  clear s hE
  have HM := hid hm
  subst hx
  have q1 := ne_b (show op ≠ 20 by omega)
  have q2 := ne_b (show op ≠ 21 by omega)
  have q3 := ne_b (show op ≠ 22 by omega)
  have q4 := ne_b (show op ≠ 15 by omega)
  have q5 := ne_b (show op ≠ 16 by omega)
  have q6 := ne_b (show op ≠ 23 by omega)
  have q7 := ne_b (show op ≠ 25 by omega)
  have q8 := ne_b (show op ≠ 26 by omega)
  have q9 := ne_b (show op ≠ 24 by omega)
  clear g1 g2
  go_enter Try.func29, Try.ntmps29
  go_upto_region 22 with fail
  obtain ⟨z1, z2⟩ := two_new w (.int .i64 op) (.int .i64 wd) (.int .i64 na) (.int .i64 nb) (.int .i64 nc) (.int .u64 nv) (.int .u64 p) (.int .u64 q) (.int .u64 r)
  have L4 : Hid (Below w.heap.size w ((w.alloc (.cells #[.int .i64 op, .int .i64 wd, .int .i64 na, .int .i64 nb, .int .i64 nc, .int .u64 nv] 61)).alloc (.cells #[.int .u64 p, .int .u64 q, .int .u64 r] 64))) := hid (by go_grown)
  revert z1 z2 L4
  generalize (w.alloc (.cells #[.int .i64 op, .int .i64 wd, .int .i64 na, .int .i64 nb, .int .i64 nc, .int .u64 nv] 61)).alloc (.cells #[.int .u64 p, .int .u64 q, .int .u64 r] 64) = w4
  intro z1 z2 L4
  have S4 := hid (HS.out.below L4.out)
  have c0 : ∀ y : BW w4, y.w.cell? ⟨w.heap.size, 0, none⟩ = some (.int .i64 op) := BW.cell (by rw [cell_of z1]; rfl)
  have c2 : ∀ y : BW w4, y.w.cell? ⟨w.heap.size, 2, none⟩ = some (.int .i64 na) := BW.cell (by rw [cell_of z1]; rfl)
  have d0 : ∀ y : BW w4, y.w.cell? ⟨w.heap.size + 1, 0, none⟩ = some (.int .u64 p) := BW.cell (by rw [cell_of z2]; rfl)
  have d1 : ∀ y : BW w4, y.w.cell? ⟨w.heap.size + 1, 1, none⟩ = some (.int .u64 q) := BW.cell (by rw [cell_of z2]; rfl)
  clear z1 z2 HS
  haveI : Inhabited (BW w4) := ⟨⟨w4, Below.refl _ _⟩⟩
  refine wp_region_below (by kernel_rfl) (by kernel_rfl) ?_
  repeat (go_big_quiet_step (first
    | (go_at_call 41; exact bw_of (width_is (Dg.below S4.out (BW.be _)) na HM.out))
    | (go_at_call 63; exact bw_same (Wd.binary_any _ _ _ _ _ hp.1 hp.2 hq.1 hq.2))
    | fail))
  refine wpQuiet_nil ?_
  intro _ hw
  obtain ⟨yy, hw2⟩ := hw
  subst hw2
  go_wp2_with fail
  go_ret
  exact ⟨rfl, hid (Below.next L4.out yy.be)⟩

theorem mn15 (s : Dg k w N P) (hE : Us w a len E) (wd na nb nc nv p q r : Int) (hp : 0 ≤ p ∧ p < 18446744073709551616) {x : Int} (hx : Wd.unF 15 wd p = x) :
    Calls Try.prog 29 #[.pointer (some ⟨k.DB, 0, none⟩), .agg #[.int .i64 15, .int .i64 wd, .int .i64 na, .int .i64 nb, .int .i64 nc, .int .u64 nv], .agg #[.int .u64 p, .int .u64 q, .int .u64 r], .slice a len cap] w fun e w' => e = .returned (.int .u64 x) ∧ Hid (Below w.heap.size w w') := by
  clear s hE
  subst hx
  go_enter Try.func29, Try.ntmps29
  go_wp2_with (go_at_call 62; with_reducible (refine (Wd.unary_any _ _ _ _ hp.1 hp.2).mono ?_); rintro e w1 ⟨rfl, rfl⟩)
  go_ret
  exact ⟨rfl, hid (by go_grown)⟩

theorem mn16 (s : Dg k w N P) (hE : Us w a len E) (wd na nb nc nv p q r : Int) (hp : 0 ≤ p ∧ p < 18446744073709551616) {x : Int} (hx : Wd.unF 16 wd p = x) :
    Calls Try.prog 29 #[.pointer (some ⟨k.DB, 0, none⟩), .agg #[.int .i64 16, .int .i64 wd, .int .i64 na, .int .i64 nb, .int .i64 nc, .int .u64 nv], .agg #[.int .u64 p, .int .u64 q, .int .u64 r], .slice a len cap] w fun e w' => e = .returned (.int .u64 x) ∧ Hid (Below w.heap.size w w') := by
  clear s hE
  subst hx
  go_enter Try.func29, Try.ntmps29
  go_wp2_with (go_at_call 62; with_reducible (refine (Wd.unary_any _ _ _ _ hp.1 hp.2).mono ?_); rintro e w1 ⟨rfl, rfl⟩)
  go_ret
  exact ⟨rfl, hid (by go_grown)⟩

end

end Go.Proofs.Ytbekgejbgmdbdaa
