/-
  Halve: each activity is half of it.
-/
import Derived.Test.YtbddhjohlpblaaaBump
namespace Go.Proofs.Ytbddhjohlpblaaa
open Go.RowKit
set_option linter.unusedVariables false

def halfTo (A : List Int) (q : Nat) : List Int := (A.take q).map (· / 2) ++ A.drop q

theorem half_len {A : List Int} {q : Nat} (h : q ≤ A.length) : (halfTo A q).length = A.length := by simp [halfTo]; omega
theorem half_zero (A : List Int) : halfTo A 0 = A := by simp [halfTo]
theorem half_all {A : List Int} {q : Nat} (h : A.length ≤ q) : halfTo A q = halveF A := by simp [halfTo, halveF, List.take_of_length_le h, List.drop_of_length_le h]
theorem half_at {A : List Int} {q : Nat} (h : q < A.length) : fn (halfTo A q) q = fn A q := by
  simp only [fn, halfTo, List.getD_eq_getElem?_getD]
  rw [List.getElem?_append_right (by simp; omega)]
  simp [Nat.min_eq_left (Nat.le_of_lt h)]
theorem half_set {A : List Int} {q : Nat} (h : q < A.length) : (halfTo A q).set q (fn A q / 2) = halfTo A (q + 1) := by
  have e : A.drop q = fn A q :: A.drop (q + 1) := by rw [List.drop_eq_getElem_cons h]; simp [fn, h]
  have e2 : A.take (q + 1) = A.take q ++ [fn A q] := by rw [List.take_add_one]; simp [fn, h]
  have hl : ((A.take q).map (· / 2)).length = q := by simp; omega
  rw [halfTo, e, List.set_append_right _ _ (by rw [hl]; exact Nat.le_refl _), hl, halfTo, e2]
  simp

theorem halve_fn (A : List Int) (u : Nat) : fn (halveF A) u = fn A u / 2 := by
  simp only [fn, halveF, List.getD_eq_getElem?_getD, List.getElem?_map]
  cases A[u]? <;> simp

structure HvRel (k : K) (w : World) (A hs : List Int) (wv : Value) (wr : World) (hs1 : List Int) (c : Nat) : Prop where
  gd : Gd k wr A hs1 wv
  len : hs1.length = hs.length
  same : ∀ x, In hs.length (fn hs1) x ↔ In hs.length (fn hs) x
  fr : Fr k wv wv w wr
  hp : Heap (ac A) hs.length (fn hs1) c

theorem HvRel.next {k : K} {w wr w' : World} {A hs hs1 : List Int} {wv : Value} {c u : Nat} (r : HvRel k w A hs wv wr hs1 (c + 1)) (s : SinkEnd k A hs1 wv u c wr w') : ∃ hs2, HvRel k w A hs wv w' hs2 c := by
  obtain ⟨hs2, i, m, hp⟩ := s
  have l := r.len
  refine ⟨hs2, m.gd, m.len.trans l, fun x => ?_, r.fr.trans m.fr, by rw [l] at hp; exact hp⟩
  have := m.same x
  rw [l] at this
  rw [this, r.same x]

theorem HvRel.su {k : K} {w wr : World} {A hs hs1 : List Int} {wv : Value} {c : Nat} (r : HvRel k w A hs wv wr hs1 (c + 1)) : Sunk (ac A) hs1.length (fn hs1) c c := by
  rw [r.len]; exact heap_next r.hp

def HalveEnd (k : K) (A : List Int) (W : List Bool) (wv : Value) (w w' : World) : Prop := Ord k w' (halveF A) W wv ∧ Fr k wv wv w w'

theorem halve_end {k : K} {w w' : World} {A hs hs1 : List Int} {W : List Bool} {wv : Value} (g : Good k.n A W hs) (r : HvRel k w (halveF A) hs wv w' hs1 0) : HalveEnd k A W wv w w' := by
  refine ⟨⟨hs1, r.gd, by rw [r.len]; exact r.hp, g.same r.len r.same fun u hu => ?_⟩, r.fr⟩
  rw [halve_fn]
  have := g.bd u hu
  omega

theorem halve_none (w : World) : Calls Try.prog 16 #[.pointer none] w fun e w' => e = .returned (.tuple #[]) ∧ w' = w := by
  go_enter Try.func16, Try.ntmps16
  go_wp2
  refine bodyPost_ret (results_none rfl _ _ _) rfl ?_
  exact ⟨rfl, rfl⟩

set_option maxHeartbeats 1000000 in
theorem halve_any {k : K} {w : World} {A : List Int} {W : List Bool} {wv : Value} (s : Ord k w A W wv) :
    Calls Try.prog 16 #[.pointer (some ⟨k.OB, 0, none⟩)] w fun e w' => e = .returned (.tuple #[]) ∧ HalveEnd k A W wv w w' := by
  obtain ⟨hs, ⟨P, s1, p⟩, hp, g⟩ := id s
  have c0 := s1.c0
  have hkn := s1.hn
  have hla := s1.la
  have hsm : hs.length ≤ 1048576 := by have := p.len; omega
  have HP := hid p
  have HG := hid g
  have R0 : Hid (Raw k w (halfTo A 0) hs P wv ∧ Fr k wv wv w w) := hid ⟨by rw [half_zero]; exact s1, Fr.refl _ _ _⟩
  clear s s1 p hp g
  go_enter Try.func16, Try.ntmps16
  go_wp2
  go_loopw [2, 11] (fun _ i wr => ∃ q : Nat, q ≤ k.n ∧ i = .int .i64 q ∧ Hid (Raw k wr (halfTo A q) hs P wv ∧ Fr k wv wv w wr)) (fun _ i _ => k.n - (intOf i).toNat)
  case atStart => exact ⟨0, Nat.zero_le _, rfl, R0⟩
  case round =>
    clear c0 R0
    obtain ⟨q, hq, rfl, hr⟩ := hrel
    by_cases hlt : q < k.n
    · have hlt' : (q : Int) < k.n := by omega
      have c0 := hr.out.1.c0
      have ca := hr.out.1.ca hlt
      have caf := hr.out.1.caf q
      rw [half_at (by omega)] at ca
      have b0 := (HG.out.bd q hlt).1
      have b1 := (HG.out.bd q hlt).2
      have b2 : ¬ fn A q < 0 := by omega
      have R1 := hid (hr.out.1.puta q (fn A q / 2))
      have F1 : Hid (Fr k wv wv w (wr.setCell ⟨k.AB, q, none⟩ (.int .i64 (fn A q / 2)))) := hid (hr.out.2.trans (Fr.grown (grown_set wr _ _) (fun j hj => by cases hj; exact .inl rfl)))
      have HE := hid (half_set (A := A) (q := q) (by omega))
      go_wp2
      go_roundw
      case rel => exact ⟨q + 1, by omega, by go_num, hid ⟨by rw [← HE.out]; exact R1.out, F1.out⟩⟩
      case measure => simp only [intOf]; omega
    · have HR : Hid (HvRel k w (halveF A) hs wv wr hs (hs.length / 2)) := hid (by
        have := hr.out.1
        rw [half_all (by omega)] at this
        exact ⟨⟨P, this, HP.out⟩, rfl, fun _ => Iff.rfl, hr.out.2, heap_half⟩)
      have c1 := HR.out.gd.c1
      obtain ⟨ao, cap, rfl⟩ := hr.out.1.shape
      clear hr
      go_wp2
      go_loopw [3] (fun a wr => ∃ (c : Nat) (hs1 : List Int), a = .int .i64 ((c : Int) - 1) ∧ c ≤ hs.length / 2 ∧ Hid (HvRel k w (halveF A) hs (.slice ao hs.length cap) wr hs1 c)) (fun a _ => (intOf a + 1).toNat)
      case atStart => exact ⟨hs.length / 2, hs, by simp, Nat.le_refl _, HR⟩
      case round =>
        clear c1 HR
        obtain ⟨c, hs1, rfl, hc, hr⟩ := hrel
        rcases c with _ | c
        · go_wp2
          go_end0
          exact ⟨rfl, halve_end HG.out hr.out⟩
        · obtain ⟨g, rfl⟩ : ∃ g, ao = some ⟨g, 0, none⟩ := by
            obtain ⟨P', s', _⟩ := hr.out.gd
            obtain ⟨g, c', e⟩ := s'.filled (by rw [hr.out.len]; omega)
            rw [hr.out.len] at e
            cases e
            exact ⟨g, rfl⟩
          have hcl : c < hs.length := by omega
          have hcl' : (c : Int) < hs.length := by omega
          have hcl1 : c < hs1.length := by rw [hr.out.len]; exact hcl
          have c1 := hr.out.gd.c1
          obtain ⟨u, hu, hun, cu⟩ := hr.out.gd.ch hcl
          have HU := hid hu
          have hec : ((c + 1 : Nat) : Int) - 1 = c := by omega
          rw [hec]
          clear hu hec
          go_wp2_with (go_at_call 25; with_reducible (refine (sink_any hr.out.gd u c c hcl1 HU.out hr.out.su (Nat.le_refl _)).mono ?_); rintro e w5 ⟨rfl, h5⟩)
          go_roundw
          case rel =>
            obtain ⟨hs2, r2⟩ := hr.out.next h5
            exact ⟨c, hs2, rfl, by omega, r2⟩
          case measure => simp only [intOf]; omega

end Go.Proofs.Ytbddhjohlpblaaa
