/-
  Follows, of the program and of the document.
-/
import Derived.Test.YtfhkbfkdmbadbaaRclose
namespace Go.Proofs.Ytfhkbfkdmbadbaa
open Go.RowKit
set_option linter.unusedVariables false

/-- All that follows is among the literals. -/
theorem res_len {L : List (List Int)} {S xs : List Int} {ok : Bool} (h : Res L S xs ok) : xs.length ≤ (lits L S).length := by
  rcases h with ⟨_, rfl, _⟩ | ⟨_, _, h2, h3⟩
  · simp
  · refine len_sub (h2.imp fun h => by omega) fun x hx => ?_
    exact (h3 x).1 hx (fun y => y ∈ lits L S) (fun y hy h0 => mem_lits.2 ⟨.inl hy, h0⟩) (fun y c hc hy h0 _ => mem_lits.2 ⟨.inr ⟨c, hc, hy⟩, h0⟩)

theorem close_at (w : World) (la : Option Addr) (n cap : Nat) (L : List (List Int)) (gr : Grid w la n cap L) (sa : Option Addr) (sn scap : Nat) (S : List Int) (hr : Row w sa sn scap S) (hn : n ≤ 100) (hs : sn ≤ 10000) (hl : ∀ c ∈ L, c.length ≤ 1000) :
    Calls Try.prog 8 #[.slice la n cap, .slice sa sn scap] w fun e w' => ∃ (ao : Option Addr) (m c : Nat) (xs : List Int) (ok : Bool), e = .returned (.tuple #[.slice ao m c, .bool ok]) ∧ Hid (Row w' ao m c xs) ∧ Hid (Res L S xs ok) ∧ Hid (m ≤ (lits L S).length) ∧ Hid (Below w.heap.size w w') := by
  refine (close_any w la n cap L gr sa sn scap S hr hn hs hl).mono fun e w' he => ?_
  obtain ⟨ao, m, c, xs, ok, h1, h2, h3, h4⟩ := he
  exact ⟨ao, m, c, xs, ok, h1, h2, h3, by have := res_len h3; rw [h2.1] at this; exact this, h4⟩

theorem rclose_at (w : World) (la : Option Addr) (n cap : Nat) (L : List (List Int)) (gr : Grid w la n cap L) (sa : Option Addr) (sn scap : Nat) (S : List Int) (hr : Row w sa sn scap S) (hn : n ≤ 100) (hs : sn ≤ 1000) (hl : ∀ c ∈ L, c.length ≤ 100) :
    Calls Try.prog 9 #[.slice la n cap, .slice sa sn scap] w fun e w' => ∃ (ao : Option Addr) (m c : Nat) (xs : List Int) (ok : Bool), e = .returned (.tuple #[.slice ao m c, .bool ok]) ∧ Hid (Row w' ao m c xs) ∧ Hid (Res L S xs ok) ∧ Hid (Below w.heap.size w w') :=
  rclose_any w la n cap L gr sa sn scap S hr hn hs hl

theorem search_any (w : World) (ao : Option Addr) (n c : Nat) (xs : List Int) (x : Int) (h : Row w ao n c xs) (hs : xs.Pairwise (· < ·)) (hb : n ≤ 1000000000) :
    Calls Try.prog 24 #[.slice ao n c, .int .i64 x] w fun e w' => ∃ r : Int, e = .returned (.tuple #[.int .i64 r, .bool (hasF xs x)]) ∧ Hid (Below w.heap.size w w') := by
  by_cases h0 : n = 0
  · subst h0
    have e : xs = [] := List.eq_nil_of_length_eq_zero h.1
    subst e
    refine (Try.slices_BinarySearch_int_empty ao c x w).mono ?_
    rintro e w' ⟨rfl, rfl⟩
    exact ⟨0, rfl, Below.refl _ _⟩
  · obtain ⟨b, off, rfl, hc⟩ := h.2.2.2.2.2 (by omega)
    have e : n = xs.length := h.1.symm
    subst e
    refine (Try.slices_BinarySearch_int b off xs.length c xs x w (Nat.le_refl _) (by omega) hc (by rw [List.take_length]; exact hs.imp fun h => by omega)).mono ?_
    rintro e w' ⟨rfl, q, rfl⟩
    have e2 : (xs.take xs.length).contains x = hasF xs x := by
      rw [List.take_length, Bool.eq_iff_iff, hasF_mem]; simp
    rw [e2]
    exact ⟨_, rfl, ⟨rfl, rfl, rfl, Nat.le_refl _, fun _ _ => rfl⟩⟩

theorem res_up {L : List (List Int)} {S xs : List Int} (h : Res L S xs true) : xs.Pairwise (· < ·) ∧ ∀ x, hasF xs x = true ↔ Bad L S ∨ Der L S x := by
  rcases h with ⟨h, _⟩ | ⟨_, h1, h2, h3⟩
  · cases h
  · refine ⟨h2, fun x => ?_⟩
    rw [hasF_mem, h3]
    exact ⟨.inr, fun h => h.elim (fun q => absurd q h1) id⟩

theorem res_bad {L : List (List Int)} {S xs : List Int} (h : Res L S xs false) : Bad L S ∧ xs = [] := by
  rcases h with ⟨_, h1, h2⟩ | ⟨h, _⟩
  · exact ⟨h2, h1⟩
  · cases h

theorem lits_len {L : List (List Int)} {S : List Int} {a b : Nat} (hn : L.length ≤ 100) (hs : S.length ≤ a) (h : ∀ c ∈ L, c.length ≤ 100) : (lits L S).length ≤ a + 10000 := by
  have h1 := flat_len2 h
  have h2 : (lits L S).length ≤ S.length + L.flatten.length := by
    refine Nat.le_trans (List.length_filter_le _ _) ?_; simp
  omega

theorem follows_any (w : World) (la : Option Addr) (n cap : Nat) (L : List (List Int)) (gr : Grid w la n cap L) (sa : Option Addr) (sn scap : Nat) (S : List Int) (hr : Row w sa sn scap S) (x : Int) (hn : n ≤ 100) (hs : sn ≤ 10000) (hl : ∀ c ∈ L, c.length ≤ 100) :
    Calls Try.prog 11 #[.slice la n cap, .slice sa sn scap, .int .i64 x] w fun e w' => ∃ b : Bool, e = .returned (.bool b) ∧ Hid (b = true ↔ Bad L S ∨ Der L S x) ∧ Hid (Below w.heap.size w w') := by
  have HGR := hid gr
  have HR := hid hr
  have HL : Hid (∀ c ∈ L, c.length ≤ 1000) := hid (fun c hc => by have := hl c hc; omega)
  have HLL : Hid ((lits L S).length ≤ 1000000000) := hid (by have := lits_len (a := 10000) (b := 0) (by rw [gr.1]; exact hn) (by rw [hr.1]; exact hs) hl; omega)
  clear gr hr hl
  go_enter Try.func11, Try.ntmps11
  go_wp2_with (first
    | (go_at_call 8; with_reducible (refine (close_at w la n cap L HGR.out sa sn scap S HR.out hn hs HL.out).mono ?_); rintro e w1 ⟨ao, m, c, xs, ok, rfl, hrow, hres, hmm, hb⟩; cases ok)
    | (go_at_call 24; with_reducible (refine (search_any _ ao m c xs x hrow.out (res_up hres.out).1 (Nat.le_trans hmm.out HLL.out)).mono ?_); rintro e w2 ⟨r, rfl, hb2⟩))
  · go_ret
    exact ⟨true, rfl, hid ⟨fun _ => .inl (res_bad hres.out).1, fun _ => rfl⟩, hb⟩
  · go_ret
    exact ⟨_, rfl, (res_up hres.out).2 x, Below.next hb.out hb2.out⟩

theorem rfollows_any (w : World) (la : Option Addr) (n cap : Nat) (L : List (List Int)) (gr : Grid w la n cap L) (sa : Option Addr) (sn scap : Nat) (S : List Int) (hr : Row w sa sn scap S) (x : Int) (hn : n ≤ 100) (hs : sn ≤ 1000) (hl : ∀ c ∈ L, c.length ≤ 100) :
    Calls Try.prog 12 #[.slice la n cap, .slice sa sn scap, .int .i64 x] w fun e w' => ∃ b : Bool, e = .returned (.bool b) ∧ Hid (b = true ↔ Bad L S ∨ Der L S x) ∧ Hid (Below w.heap.size w w') := by
  have HGR := hid gr
  have HR := hid hr
  have HL := hid hl
  clear gr hr hl
  go_enter Try.func12, Try.ntmps12
  go_wp2_with (first
    | (go_at_call 9; with_reducible (refine (rclose_at w la n cap L HGR.out sa sn scap S HR.out hn hs HL.out).mono ?_); rintro e w1 ⟨ao, m, c, xs, ok, rfl, hrow, hres, hb⟩; cases ok)
    | (go_at_call 25; with_reducible (refine (rhas_any ao m c xs x _ hrow.out).mono ?_); rintro e w2 ⟨rfl, rfl⟩))
  · go_ret
    exact ⟨true, rfl, hid ⟨fun _ => .inl (res_bad hres.out).1, fun _ => rfl⟩, hb⟩
  · go_ret
    exact ⟨_, rfl, (res_up hres.out).2 x, hb⟩

end Go.Proofs.Ytfhkbfkdmbadbaa
