/-
  Known, is, alike, cancels, widthOf of the package fold.
-/
import Derived.Test.YtamiifgdpdfjnaaFp
import Derived.Test.YtamiifgdpdfjnaaOwalk
import Derived.Test.YtamiifgdpdfjnaaWCalls
namespace Go.Proofs.Ytamiifgdpdfjnaa
open Go.RowKit Go.Maps
set_option linter.unusedVariables false
set_option maxRecDepth 100000

theorem cv_yes {N : List Nd} {a : Int} (h : (ndA N a).op = 20) : conV N a = (ndA N a).v ∧ conB N a = true := by simp [conV, conB, h]
theorem cv_no {N : List Nd} {a : Int} (h : ¬ (ndA N a).op = 20) : conV N a = 0 ∧ conB N a = false := by simp [conV, conB, h]

theorem known_any {k : K} {w : World} {N : List Nd} {P : Nat → Prop} (s : Dg k w N P) (id : Int) : Calls Try.prog 9 #[.pointer (some ⟨k.DB, 0, none⟩), .int .i64 id] w fun e w' =>
    e = .returned (.tuple #[.int .u64 (conV N id), .bool (conB N id)]) ∧ Hid (Below w.heap.size w w') := by
  obtain ⟨t, ht⟩ : ∃ t, isN N id = t := ⟨_, rfl⟩
  obtain ⟨n1, hn⟩ : ∃ n1, ndA N id = n1 := ⟨_, rfl⟩
  obtain ⟨op, wd, na, nb, nc, nv⟩ := n1
  have HS := hid s
  have HT := hid ht
  have HN := hid hn
  by_cases h : op = 20
  · subst h
    have e := cv_yes (N := N) (a := id) (by rw [hn])
    rw [e.1, e.2, hn]
    clear e s ht hn
    go_enter Try.func9, Try.ntmps9
    go_wp2_with (go_at_call 10; with_reducible (refine (node_as HS.out id HN.out HT.out).mono ?_); rintro e w2 ⟨rfl, b2⟩)
    go_ret2
    exact ⟨rfl, hid (Below.next b2.out (by go_grown))⟩
  · have e := cv_no (N := N) (a := id) (by rw [hn]; exact h)
    rw [e.1, e.2]
    have h' : (op != 20) = true := by simpa using h
    clear e s ht hn h
    go_enter Try.func9, Try.ntmps9
    go_wp2_with (go_at_call 10; with_reducible (refine (node_as HS.out id HN.out HT.out).mono ?_); rintro e w2 ⟨rfl, b2⟩)
    go_ret2
    exact ⟨rfl, hid (Below.next b2.out (by go_grown))⟩

theorem known_is {k : K} {w : World} {N : List Nd} {P : Nat → Prop} (s : Dg k w N P) (id : Int) {v : Int} {b : Bool} (hv : conV N id = v) (hb : conB N id = b) : Calls Try.prog 9 #[.pointer (some ⟨k.DB, 0, none⟩), .int .i64 id] w fun e w' =>
    e = .returned (.tuple #[.int .u64 v, .bool b]) ∧ Hid (Below w.heap.size w w') := by
  subst hv hb; exact known_any s id

theorem is_any {k : K} {w : World} {N : List Nd} {P : Nat → Prop} (s : Dg k w N P) (id x : Int) : Calls Try.prog 47 #[.pointer (some ⟨k.DB, 0, none⟩), .int .i64 id, .int .u64 x] w fun e w' =>
    e = .returned (.bool (isC N id x)) ∧ Hid (Below w.heap.size w w') := by
  obtain ⟨v, hv⟩ : ∃ v, conV N id = v := ⟨_, rfl⟩
  obtain ⟨b, hb⟩ : ∃ b, conB N id = b := ⟨_, rfl⟩
  have HE : Hid (isC N id x = (b && (v == x))) := hid (by unfold isC; rw [hv, hb])
  have HS := hid s
  have HV := hid hv
  have HB := hid hb
  clear s hv hb
  cases b
  · go_enter Try.func47, Try.ntmps47
    go_wp2_with (go_at_call 9; with_reducible (refine (known_is HS.out id HV.out HB.out).mono ?_); rintro e w2 ⟨rfl, b2⟩)
    go_ret
    exact ⟨ret_bool (by rw [HE.out]; rfl), b2⟩
  · go_enter Try.func47, Try.ntmps47
    go_wp2_with (go_at_call 9; with_reducible (refine (known_is HS.out id HV.out HB.out).mono ?_); rintro e w2 ⟨rfl, b2⟩)
    go_ret
    exact ⟨ret_bool (by rw [HE.out]; rfl), b2⟩

theorem is_is {k : K} {w : World} {N : List Nd} {P : Nat → Prop} (s : Dg k w N P) (id x : Int) {b : Bool} (hb : isC N id x = b) : Calls Try.prog 47 #[.pointer (some ⟨k.DB, 0, none⟩), .int .i64 id, .int .u64 x] w fun e w' =>
    e = .returned (.bool b) ∧ Hid (Below w.heap.size w w') := by subst hb; exact is_any s id x

theorem cancels_any (op : Int) (w : World) : Calls Try.prog 45 #[.int .i64 op] w fun e w' => e = .returned (.bool (canB op)) ∧ w' = w := by
  by_cases h2 : op = 2
  · subst h2
    go_enter Try.func45, Try.ntmps45
    go_wp2
    go_ret
    exact ⟨rfl, rfl⟩
  by_cases h8 : op = 8
  · subst h8
    go_enter Try.func45, Try.ntmps45
    go_wp2
    go_ret
    exact ⟨rfl, rfl⟩
  by_cases h12 : op = 12
  · subst h12
    go_enter Try.func45, Try.ntmps45
    go_wp2
    go_ret
    exact ⟨rfl, rfl⟩
  have HE : Hid (canB op = false) := hid (by simp [canB, h2, h8, h12])
  have e1 : (op == 2) = false := by simpa using h2
  have e2 : (op == 8) = false := by simpa using h8
  have e3 : (op == 12) = false := by simpa using h12
  clear h2 h8 h12
  go_enter Try.func45, Try.ntmps45
  go_wp2
  go_ret
  exact ⟨ret_bool HE.out.symm, rfl⟩

theorem fwidth_any (op x : Int) (w : World) (h1 : 1 ≤ op) (h2 : op ≤ 14) : Calls Try.prog 25 #[.int .i64 op, .int .i64 x] w fun e w' => e = .returned (.int .i64 (opW op x)) ∧ w' = w := by
  by_cases h : 12 ≤ op
  · have HV : Hid (opW op x = 1) := hid (by simp [opW, h])
    have : op = 12 ∨ op = 13 ∨ op = 14 := by omega
    rcases this with rfl | rfl | rfl
    all_goals
      go_enter Try.func25, Try.ntmps25
      go_wp2
      go_ret
      exact ⟨ret_int HV.out.symm, rfl⟩
  · have HV : Hid (opW op x = x) := hid (by simp [opW, h])
    have e1 : (op == 12) = false := by simp; omega
    have e2 : (op == 13) = false := by simp; omega
    have e3 : (op == 14) = false := by simp; omega
    clear h h1 h2
    go_enter Try.func25, Try.ntmps25
    go_wp2
    go_ret
    exact ⟨ret_int HV.out.symm, rfl⟩

theorem alike_any {k : K} {w : World} {N : List Nd} {P : Nat → Prop} (s : Dg k w N P) (a b : Int) : Calls Try.prog 22 #[.pointer (some ⟨k.DB, 0, none⟩), .int .i64 a, .int .i64 b] w fun e w' =>
    e = .returned (.bool (alk N a b)) ∧ Hid (Below w.heap.size w w') := by
  obtain ⟨x, hx⟩ : ∃ x, wdF N a = x := ⟨_, rfl⟩
  obtain ⟨y, hy⟩ : ∃ y, wdF N b = y := ⟨_, rfl⟩
  have HE : Hid (alk N a b = ((x != 0) && (x == y))) := hid (by unfold alk; rw [hx, hy])
  have HS := hid s
  have HX := hid hx
  have HY := hid hy
  clear s hx hy
  cases h0 : (x != 0)
  · go_enter Try.func22, Try.ntmps22
    go_wp2_with (go_at_call 6; with_reducible (refine (width_is HS.out a HX.out).mono ?_); rintro e w2 ⟨rfl, b2⟩)
    go_ret
    exact ⟨ret_bool (by rw [HE.out, h0]; rfl), b2⟩
  · go_enter Try.func22, Try.ntmps22
    go_wp2_with (first
      | (go_at_call 6; with_reducible (refine (width_is s3.out b HY.out).mono ?_); rintro e w4 ⟨rfl, b4⟩)
      | (go_at_call 6; with_reducible (refine (width_is s2.out a HX.out).mono ?_); rintro e w3 ⟨rfl, b3⟩; have s3 := hid (s2.out.below b3.out))
      | (go_at_call 6; with_reducible (refine (width_is HS.out a HX.out).mono ?_); rintro e w2 ⟨rfl, b2⟩; have s2 := hid (HS.out.below b2.out)))
    go_ret
    exact ⟨ret_bool (by rw [HE.out, h0]; rfl), hid (Below.next b2.out (Below.next b3.out b4.out))⟩
theorem alike_is {k : K} {w : World} {N : List Nd} {P : Nat → Prop} (s : Dg k w N P) (a b : Int) {t : Bool} (ht : alk N a b = t) : Calls Try.prog 22 #[.pointer (some ⟨k.DB, 0, none⟩), .int .i64 a, .int .i64 b] w fun e w' =>
    e = .returned (.bool t) ∧ Hid (Below w.heap.size w w') := by subst ht; exact alike_any s a b

end Go.Proofs.Ytamiifgdpdfjnaa
