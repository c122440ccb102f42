/-
  swap: two that wait change places.
-/
import Derived.Test.YtbddhjohlpblaaaLooks
import Derived.BigRegion
namespace Go.Proofs.Ytbddhjohlpblaaa
open Go.RowKit
set_option linter.unusedVariables false

/-- The order in memory, and each that waits has its place. -/
def Gd (k : K) (w : World) (A hs : List Int) (wv : Value) : Prop := ∃ P, Raw k w A hs P wv ∧ Pl k.n hs.length (fn hs) (fn P)

theorem pl_lists {n m : Nat} {h : Nat → Int} {P : List Int} {i j : Nat} (s : Pl n m h (fn P)) (hP : P.length = n) (hi : i < m) (hj : j < m) :
    Pl n m (sw h i j) (fn ((P.set (h j).toNat (i + 1)).set (h i).toNat (j + 1))) ∧ Pl n m (sw h i j) (fn ((P.set (h i).toNat (j + 1)).set (h j).toNat (i + 1))) := by
  have h1 := s.1 i hi
  have h2 := s.1 j hj
  have l1 : (h i).toNat < P.length := by omega
  have l2 : (h j).toNat < P.length := by omega
  have he : (h j).toNat = (h i).toNat → i = j := fun e => s.inj i j hi hj (by omega)
  refine ⟨pl_sw s hi hj ?_ ?_ ?_, pl_sw s hi hj ?_ ?_ ?_⟩
  · rw [fn_set (by simpa using l1), fn_set l2]
    by_cases e : (h j).toNat = (h i).toNat
    · rw [if_pos e, he e]
    · rw [if_neg e, if_pos rfl]
  · rw [fn_set (by simpa using l1), if_pos rfl]
  · intro v v1 v2
    rw [fn_set (by simpa using l1), fn_set l2, if_neg v2, if_neg v1]
  · rw [fn_set (by simpa using l2), if_pos rfl]
  · rw [fn_set (by simpa using l2), fn_set l1]
    by_cases e : (h i).toNat = (h j).toNat
    · rw [if_pos e, he e.symm]
    · rw [if_neg e, if_pos rfl]
  · intro v v1 v2
    rw [fn_set (by simpa using l2), fn_set l1, if_neg v1, if_neg v2]

def SwapEnd (k : K) (A hs : List Int) (wv : Value) (i j : Nat) (w w' : World) : Prop :=
  ∃ hs', Gd k w' A hs' wv ∧ hs'.length = hs.length ∧ fn hs' = sw (fn hs) i j ∧ Fr k wv wv w w'

set_option maxHeartbeats 1000000 in
theorem swap_any {k : K} {w : World} {A hs : List Int} {wv : Value} (s : Gd k w A hs wv) (i j : Nat) (hi : i < hs.length) (hj : j < hs.length) :
    Calls Try.prog 24 #[.pointer (some ⟨k.OB, 0, none⟩), .int .i64 i, .int .i64 j] w fun e w' => e = .returned (.tuple #[]) ∧ SwapEnd k A hs wv i j w w' := by
  obtain ⟨P, s, p⟩ := s
  obtain ⟨g, cap, rfl⟩ := s.filled (by omega)
  have c1 := s.c1
  have d1 := s.ch rfl hi
  have d2 := s.ch rfl hj
  have d3 := s.chf rfl i
  have d4 := s.chf rfl j
  have hi' : (i : Int) < hs.length := by omega
  have hj' : (j : Int) < hs.length := by omega
  have s1 := s.putw rfl i hi (fn hs j)
  have s2 := s1.putw (by simp) j hj (fn hs i)
  have d5 := s1.ch (i := j) (by simp) hj
  have d6 := s1.chf (by simp) j
  have F1 : Hid (Fr k (.slice (some ⟨g, 0, none⟩) hs.length cap) (.slice (some ⟨g, 0, none⟩) hs.length cap) w ((w.setCell ⟨g, i, none⟩ (.int .i64 (fn hs j))).setCell ⟨g, j, none⟩ (.int .i64 (fn hs i))).drew) :=
    hid (((Fr.grown (grown_set w _ _) (fun q hq => by cases hq; exact .inr (.inr (.inr rfl)))).trans (Fr.grown (grown_set _ _ _) (fun q hq => by cases hq; exact .inr (.inr (.inr rfl))))).trans (Fr.drew _ _ _))
  have S2 := hid s2.drew
  have E2 := hid (fn_swap hi hj)
  have L2 : Hid (((hs.set i (fn hs j)).set j (fn hs i)).length = hs.length) := hid (by simp)
  have HP := hid p
  clear s p s1 s2
  go_enter Try.func24, Try.ntmps24
  go_wp2
  go_region
  go_wp2
  revert F1 S2 E2 L2
  generalize ((w.setCell ⟨g, i, none⟩ (.int .i64 (fn hs j))).setCell ⟨g, j, none⟩ (.int .i64 (fn hs i))).drew = w1
  generalize ((hs.set i (fn hs j)).set j (fn hs i)) = hs1
  intro F1 S2 E2 L2
  clear c1 d1 d2 d3 d4 d5 d6
  obtain ⟨x, hx⟩ : ∃ x : Nat, fn hs i = x := ⟨(fn hs i).toNat, by have := (HP.out.1 i hi).1; omega⟩
  obtain ⟨y, hy⟩ : ∃ y : Nat, fn hs j = y := ⟨(fn hs j).toNat, by have := (HP.out.1 j hj).1; omega⟩
  have hxn : x < k.n := by have := (HP.out.1 i hi).2.1; omega
  have hyn : y < k.n := by have := (HP.out.1 j hj).2.1; omega
  have hn := S2.out.hn
  have c2 := S2.out.c2
  have d1 := S2.out.ch (i := i) L2.out.symm hi
  have d2 := S2.out.ch (i := j) L2.out.symm hj
  rw [E2.out, sw_l, hy] at d1
  rw [E2.out, sw_r, hx] at d2
  have p1 := S2.out.cp hyn
  have p2 := S2.out.cpf y
  have s3 := S2.out.putp y (i + 1)
  have p3 := s3.cp hxn
  have p4 := s3.cpf x
  have s4 := hid (s3.putp x (j + 1))
  have HQ := hid (pl_lists HP.out S2.out.lp hi hj).1
  rw [hx, hy] at HQ
  have F2 : Hid (Fr k (.slice (some ⟨g, 0, none⟩) hs.length cap) (.slice (some ⟨g, 0, none⟩) hs.length cap) w1 ((w1.setCell ⟨k.PB, y, none⟩ (.int .i64 (i + 1))).setCell ⟨k.PB, x, none⟩ (.int .i64 (j + 1))).drew) :=
    hid (((Fr.grown (grown_set w1 _ _) (fun q hq => by cases hq; exact .inr (.inl rfl))).trans (Fr.grown (grown_set _ _ _) (fun q hq => by cases hq; exact .inr (.inl rfl)))).trans (Fr.drew _ _ _))
  have hle := HP.out.len
  have hi2 : i < 9223372036854775807 := by omega
  have hj2 : j < 9223372036854775807 := by omega
  have hxn' : (x : Int) < k.n := by omega
  have hyn' : (y : Int) < k.n := by omega
  clear s3 hx hy
  go_region
  go_wp2
  go_end0
  refine ⟨rfl, hs1, ⟨_, s4.out.drew, ?_⟩, L2.out, E2.out, F1.out.trans F2.out⟩
  rw [L2.out, E2.out]
  exact HQ.out

end Go.Proofs.Ytbddhjohlpblaaa
