/-
  settled, oneOf, Unary, Binary, Ite of the package fold.
-/
import Derived.Test.YtamiifgdpdfjnaaFk
namespace Go.Proofs.Ytamiifgdpdfjnaa
open Go.RowKit Go.Maps
set_option linter.unusedVariables false
set_option maxRecDepth 100000

theorem ret_ub {a b : Int} {p q : Bool} (h : a = b) (g : p = q) : Ending.returned (.tuple #[.int .u64 a, .bool p]) = .returned (.tuple #[.int .u64 b, .bool q]) := by rw [h, g]
theorem ret_ib {a b : Int} {p q : Bool} (h : a = b) (g : p = q) : Ending.returned (.tuple #[.int .i64 a, .bool p]) = .returned (.tuple #[.int .i64 b, .bool q]) := by rw [h, g]

section
variable {k : K} {w0 w : World} {N : List Nd} {P : Nat → Prop}
theorem is_step (s : Hid (Dg k w N P)) (c : Hid (Below w0.heap.size w0 w)) (id x : Int) {b : Bool} (hb : isC N id x = b) : Calls Try.prog 47 #[.pointer (some ⟨k.DB, 0, none⟩), .int .i64 id, .int .u64 x] w fun e w' =>
    e = .returned (.bool b) ∧ Hid (Dg k w' N P) ∧ Hid (Below w0.heap.size w0 w') :=
  (is_is s.out id x hb).mono fun e w' h => ⟨h.1, hid (s.out.below h.2.out), hid (Below.next c.out h.2.out)⟩
theorem width_step (s : Hid (Dg k w N P)) (c : Hid (Below w0.heap.size w0 w)) (id : Int) {x : Int} (hx : wdF N id = x) : Calls Try.prog 6 #[.pointer (some ⟨k.DB, 0, none⟩), .int .i64 id] w fun e w' =>
    e = .returned (.int .i64 x) ∧ Hid (Dg k w' N P) ∧ Hid (Below w0.heap.size w0 w') :=
  (width_is s.out id hx).mono fun e w' h => ⟨h.1, hid (s.out.below h.2.out), hid (Below.next c.out h.2.out)⟩
theorem known_step (s : Hid (Dg k w N P)) (c : Hid (Below w0.heap.size w0 w)) (id : Int) {v : Int} {b : Bool} (hv : conV N id = v) (hb : conB N id = b) : Calls Try.prog 9 #[.pointer (some ⟨k.DB, 0, none⟩), .int .i64 id] w fun e w' =>
    e = .returned (.tuple #[.int .u64 v, .bool b]) ∧ Hid (Dg k w' N P) ∧ Hid (Below w0.heap.size w0 w') :=
  (known_is s.out id hv hb).mono fun e w' h => ⟨h.1, hid (s.out.below h.2.out), hid (Below.next c.out h.2.out)⟩
theorem alike_step (s : Hid (Dg k w N P)) (c : Hid (Below w0.heap.size w0 w)) (a b : Int) {t : Bool} (ht : alk N a b = t) : Calls Try.prog 22 #[.pointer (some ⟨k.DB, 0, none⟩), .int .i64 a, .int .i64 b] w fun e w' =>
    e = .returned (.bool t) ∧ Hid (Dg k w' N P) ∧ Hid (Below w0.heap.size w0 w') :=
  (alike_is s.out a b ht).mono fun e w' h => ⟨h.1, hid (s.out.below h.2.out), hid (Below.next c.out h.2.out)⟩
end

theorem settled_any {k : K} {w : World} {N : List Nd} {P : Nat → Prop} (s : Dg k w N P) (op a b : Int) : Calls Try.prog 24 #[.pointer (some ⟨k.DB, 0, none⟩), .int .i64 op, .int .i64 a, .int .i64 b] w fun e w' =>
    e = .returned (.tuple #[.int .u64 (setV N op a b), .bool (setB N op a b)]) ∧ Hid (Dg k w' N P) ∧ Hid (Below w.heap.size w w') := by
  obtain ⟨x, hx⟩ : ∃ x, wdF N a = x := ⟨_, rfl⟩
  obtain ⟨u, hu⟩ : ∃ u, conV N a = u := ⟨_, rfl⟩
  obtain ⟨p, hp⟩ : ∃ p, conB N a = p := ⟨_, rfl⟩
  obtain ⟨v, hv⟩ : ∃ v, conV N b = v := ⟨_, rfl⟩
  obtain ⟨q, hq⟩ : ∃ q, conB N b = q := ⟨_, rfl⟩
  obtain ⟨t, ht⟩ : ∃ t, canB op = t := ⟨_, rfl⟩
  obtain ⟨ab, hab⟩ : ∃ ab, (a == b) = ab := ⟨_, rfl⟩
  have HV : Hid (setV N op a b = if (p && q) || (ab && t) then Wd.binF op x u v else 0) := hid (by unfold setV sure; rw [hx, hu, hp, hv, hq, ht, hab])
  have HB : Hid (setB N op a b = (((p && q) || (ab && t)) && (Wd.binE op x == 0))) := hid (by unfold setB sure; rw [hx, hp, hq, ht, hab])
  have bu := conV_bd s.1 a
  have bv := conV_bd s.1 b
  rw [hu] at bu
  rw [hv] at bv
  have HS := hid s
  have HC := hid (Below.refl w.heap.size w)
  have HX := hid hx
  have HU := hid hu
  have HP := hid hp
  have HY := hid hv
  have HQ := hid hq
  have HT := hid ht
  have BU := hid bu
  have BV := hid bv
  clear s hx hu hp hv hq ht bu bv
  cases p <;> cases q <;> cases ab <;> cases t
  all_goals
    go_enter Try.func24, Try.ntmps24
    go_wp2_with (first
      | (go_at_call 9; with_reducible (refine (known_step (w0 := w) (by assumption) (by assumption) a HU.out HP.out).mono ?_); rintro e w2 ⟨rfl, s2, c2⟩)
      | (go_at_call 9; with_reducible (refine (known_step (w0 := w) (by assumption) (by assumption) b HY.out HQ.out).mono ?_); rintro e w2 ⟨rfl, s2, c2⟩)
      | (go_at_call 45; refine (cancels_any _ _).mono ?_; rintro e w2 ⟨rfl, rfl⟩; rw [HT.out])
      | (go_at_call 6; with_reducible (refine (width_step (w0 := w) (by assumption) (by assumption) a HX.out).mono ?_); rintro e w2 ⟨rfl, s2, c2⟩)
      | (go_at_call 46; with_reducible (refine (Wd.binary_any _ _ _ _ _ BU.out.1 BU.out.2 BV.out.1 BV.out.2).mono ?_); rintro e w2 ⟨rfl, rfl⟩))
    go_ret2
    exact ⟨ret_ub (by rw [HV.out]; rfl) (by rw [HB.out]; rfl), by assumption, by assumption⟩

end Go.Proofs.Ytamiifgdpdfjnaa
