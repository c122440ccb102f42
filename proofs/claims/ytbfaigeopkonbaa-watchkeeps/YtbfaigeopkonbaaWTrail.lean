/-
  What is decided, assigned, taken back beside a watch.
-/
import Derived.Test.YtbfaigeopkonbaaWRunP
namespace Go.Proofs.Ytbfaigeopkonbaa
open Go.RowKit Go.Maps
set_option linter.unusedVariables false

section
variable {k : K} {kw : WK} {w w' : World} {g : G} {L L' : List E} {lev lev' : Nat} {p p' : V} {H : List Int}

theorem Wa.fr (W : Wa k kw w g L lev p H) (f : Fr k p p' w w') (t : Trl k w' L' lev' p') (rs : Rs g L') : Wa k kw w' g L' lev' p' H :=
  ⟨W.j.fr f t, W.iv, W.ht.ft (FT.fr W.j.t W.j.b f), W.hf, W.hH, W.hl, rs⟩

theorem Rs.addL {n : Nat} (h : Rs g L) (l : Int) (gg : Nat) : Rs g (addL n L l gg (-1)) := by
  unfold Go.Proofs.Ytbfaigeopkonbaa.addL
  split
  · exact h.snoc (fun c => by change (0 : Int) ≤ -1 at c; omega)
  · exact h

theorem Rs.back (h : Rs g L) (x : Int) : Rs g (backL L lev x) := by
  unfold backL
  split
  · exact h.take _
  · exact h

theorem wa_assign (W : Wa k kw w g L lev p H) (l : Int) (hu : l ≤ 9223372036854775807) :
    Calls Try.prog 23 #[.pointer (some ⟨k.OB, 0, none⟩), .int .i64 l, .int .i64 (-1)] w fun e w' => ∃ b p', e = .returned (.bool b) ∧ Hid (Wa k kw w' g (addL k.n L l lev (-1)) lev p' H) ∧ Hid (FT k kw.B p p' w w') := by
  refine (assign_is W.j.t l (-1) hu rfl rfl).mono fun e w' h => ?_
  obtain ⟨p', rfl, t, f⟩ := h
  exact ⟨_, p', rfl, W.fr f.out t.out (W.rs.addL l lev), FT.fr W.j.t W.j.b f.out⟩

theorem wa_decide (W : Wa k kw w g L lev p H) (l : Int) (hu : l ≤ 9223372036854775807) :
    Calls Try.prog 29 #[.pointer (some ⟨k.OB, 0, none⟩), .int .i64 l] w fun e w' => ∃ b p', e = .returned (.bool b) ∧ Hid (Wa k kw w' g (addL k.n L l (lev + 1) (-1)) (decV k.n L lev l) p' H) ∧ Hid (FT k kw.B p p' w w') := by
  refine (decide_is W.j.t l hu rfl rfl rfl).mono fun e w' h => ?_
  obtain ⟨p', rfl, t, f⟩ := h
  exact ⟨_, p', rfl, W.fr f.out t.out (W.rs.addL l (lev + 1)), FT.fr W.j.t W.j.b f.out⟩

theorem wa_back (W : Wa k kw w g L lev p H) (x : Int) :
    Calls Try.prog 16 #[.pointer (some ⟨k.OB, 0, none⟩), .int .i64 x] w fun e w' => ∃ ao n c p', e = .returned (.slice ao n c) ∧ Hid (Wa k kw w' g (backL L lev x) (backV lev x) p' H) ∧ Hid (FT k kw.B p p' w w') := by
  refine (back_is W.j.t x).mono fun e w' h => ?_
  obtain ⟨ao, n, c, p', rfl, h, _⟩ := h
  exact ⟨ao, n, c, p', rfl, W.fr h.out.fr h.out.trl (W.rs.back x), FT.fr W.j.t W.j.b h.out.fr⟩
end

end Go.Proofs.Ytbfaigeopkonbaa
