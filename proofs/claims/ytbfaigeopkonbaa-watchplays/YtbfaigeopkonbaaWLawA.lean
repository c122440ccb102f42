/-
  The law's own helpers: first, used, held.
-/
import Derived.Test.YtbfaigeopkonbaaWRall
import Derived.Test.YtbfaigeopkonbaaMU1
import Derived.Deep.Cut
import Derived.Deep.CutRange
namespace Go.Proofs.Ytbfaigeopkonbaa
open Go.RowKit Go.Maps
set_option linter.unusedVariables false

/-- A watch and the document's have the same clauses. -/
structure Match (g : G) (xss : List (List Int)) (ths : List Bool) : Prop where
  nx : xss.length = g.nx
  tl : ths.length = g.nx
  th : ∀ i, i < g.nx → ths.getD i false = !g.gn i
  lt : ∀ i, i < g.nx → g.gn i = false → xss.getD i [] = g.lt i

theorem Match.is {g : G} {xss : List (List Int)} {ths : List Bool} (m : Match g xss ths) {c : Nat} (hc : c < g.nx) (hg : g.gn c = false) : isT ths c = true := by
  have h1 := m.th c hc
  rw [hg] at h1
  simp only [isT, Int.toNat_natCast, h1]
  have : decide (0 ≤ (c : Int) ∧ (c : Int) < ths.length) = true := by simp; rw [m.tl]; exact hc
  rw [this]; rfl

theorem Match.lv {g : G} {xss : List (List Int)} {ths : List Bool} (m : Match g xss ths) (x : Int) : isT ths x = live g x := by
  unfold isT live
  by_cases h : 0 ≤ x ∧ x < g.nx
  · have := m.th x.toNat (by omega)
    rw [this, m.tl]
  · have e1 : decide (0 ≤ x ∧ x < (g.nx : Int)) = false := by simpa using h
    rw [m.tl, e1]; rfl

theorem Match.all {g : G} {xss : List (List Int)} {ths : List Bool} (m : Match g xss ths) {c : List Int} : c ∈ allQ xss ths xss.length ↔ ∃ i, i < g.nx ∧ g.gn i = false ∧ g.lt i = c := by
  rw [mem_allQ, m.nx]
  constructor
  · rintro ⟨i, h1, h2, h3⟩
    rw [m.th i h1] at h2
    have hg : g.gn i = false := by cases hh : g.gn i <;> simp [hh] at h2; rfl
    exact ⟨i, h1, hg, by rw [← m.lt i h1 hg]; exact h3⟩
  · rintro ⟨i, h1, h2, h3⟩
    exact ⟨i, h1, by rw [m.th i h1, h2]; rfl, by rw [m.lt i h1 h2]; exact h3⟩

theorem Match.len {g : G} {xss : List (List Int)} {ths : List Bool} (m : Match g xss ths) : (allQ xss ths xss.length).length = liveN g := by
  unfold allQ liveN
  rw [List.length_map, m.nx]
  congr 1
  apply List.filter_congr
  intro i hi
  exact m.th i (List.mem_range.1 hi)

/-- The first literal of a deed. -/
def firstF (xs : List Int) : Int := xs.headD (-1)

theorem first_any {w0 w : World} (kd v : Int) {a : Option Addr} {m c : Nat} {xs : List Int} (row : U.Row w a m c xs) {y : Int} (hy : firstF xs = y) :
    Calls Try.prog 30 #[.agg #[.int .i64 kd, .int .i64 v, .slice a m c]] w fun e w' => e = .returned (.int .i64 y) ∧ Hid (Below w.heap.size w w') := by
  have hl := row.1
  by_cases h0 : m = 0
  · subst h0
    have hx : xs = [] := List.eq_nil_of_length_eq_zero hl
    subst hx
    simp only [firstF, List.headD_nil] at hy
    subst hy
    clear row
    go_enter Try.func30, Try.ntmps30
    go_wp2
    go_ret
    exact ⟨rfl, hid (by go_grown)⟩
  · obtain ⟨b, off, z, rfl, hc, hz, _, _⟩ := row.at (k := 0) (by omega)
    have hzy : z = y := by
      rw [← hy, firstF]
      have := hz.out
      cases xs with
      | nil => simp at this
      | cons q qs => simp at this; simp [this]
    subst hzy
    have hm' : (0 : Int) < m := by omega
    have hmb : ((m : Int) == 0) = false := by simp; omega
    rw [Nat.add_zero] at hc
    have hlt := cell_lt hc
    have hc' : (w.alloc (.cells #[.int .i64 kd, .int .i64 v, .slice (some ⟨b, off, none⟩) m c] 38)).cell? ⟨b, off, none⟩ = some (.int .i64 z) := (World.cell?_of_block (a := ⟨b, off, none⟩) ((grown_new w _ none).block b hlt (by simp))).trans hc
    clear row hz
    go_enter Try.func30, Try.ntmps30
    go_wp2
    go_ret
    exact ⟨rfl, hid (by go_grown)⟩

theorem reason_at {L : List E} (h : ND L) {q : Nat} {e : E} (he : L[q]? = some e) : reasonF L (vr e : Int) = e.r := by
  unfold reasonF
  rw [at_of h he]

def usedF (L : List E) (n : Int) : Bool := L.any (fun e => e.r == n)

section
variable {k : K} {w : World} {L : List E} {lev : Nat} {p : V}

theorem used_any (t : Trl k w L lev p) (n : Int) {b : Bool} (hb : usedF L n = b) : Calls Try.prog 27 #[.pointer (some ⟨k.OB, 0, none⟩), .int .i64 n] w fun e w' => e = .returned (.bool b) ∧ w' = w := by
  obtain ⟨M, hM⟩ : ∃ M, L.length = M := ⟨_, rfl⟩
  obtain ⟨ao, hao⟩ : ∃ ao, litA p = ao := ⟨_, rfl⟩
  have row := t.told.row
  rw [hM, hao] at row
  have hlen := t.len
  have hMM : M ≤ 1048576 := by omega
  have HROW := hid row
  have HT := hid t
  have HND := hid t.nd
  have HM := hid hM
  have HAO := hid hao
  have HB := hid hb
  clear t row hM hao hlen hb
  go_enter Try.func27, Try.ntmps27
  go_wp2_with (go_at_call 24; with_reducible (refine (lits_ad HT.out HM.out HAO.out).mono ?_); rintro e w1 ⟨rfl, rfl⟩)
  go_loop [6] (fun i => ∃ q : Nat, q ≤ M ∧ i = .int .i64 q ∧ Hid (∀ (j : Nat) (e : E), j < q → L[j]? = some e → (e.r == n) = false)) (fun i => M - (intOf i).toNat)
  case atStart => exact ⟨0, Nat.zero_le _, rfl, hid (fun j e h => by omega)⟩
  case round =>
    obtain ⟨q, hq, rfl, hall⟩ := hrel
    by_cases hlt : q < M
    · have hlt' : (q : Int) < M := by omega
      obtain ⟨bb, off, y, rfl, hc, hy, y0, y1⟩ := HROW.out.at hlt
      obtain ⟨e, he, hye⟩ := lits_at.1 hy.out
      obtain ⟨v, hv⟩ : ∃ v, vr e = v := ⟨_, rfl⟩
      have hdv : y.tdiv 2 = (v : Int) := by
        rw [← hye, ← hv]
        unfold vr
        rw [Int.tdiv_eq_ediv_of_nonneg (by omega)]; omega
      have hvb : (v : Int) ≤ 9223372036854775807 := by rw [← hdv, Int.tdiv_eq_ediv_of_nonneg (by omega)]; omega
      obtain ⟨r, hr⟩ : ∃ r, e.r = r := ⟨_, rfl⟩
      have HR : Hid (reasonF L (v : Int) = r) := hid (by rw [← hv, reason_at HND.out he, hr])
      have HE := hid he
      have HRR := hid hr
      clear hy he hye hv hr
      by_cases hn : r = n
      · have hnb : (r == n) = true := by simpa using hn
        go_wp2_with (go_at_call 25; with_reducible (refine (reason_is HT.out _ HR.out).mono ?_); rintro e w1 ⟨rfl, rfl⟩)
        go_ret
        refine ⟨?_, rfl⟩
        rw [← HB.out]
        have : usedF L n = true := List.any_eq_true.2 ⟨e, List.mem_of_getElem? HE.out, by rw [HRR.out]; exact hnb⟩
        rw [this]; rfl
      · have hnb : (r == n) = false := by simpa using hn
        go_wp2_with (go_at_call 25; with_reducible (refine (reason_is HT.out _ HR.out).mono ?_); rintro e w1 ⟨rfl, rfl⟩)
        go_round
        case rel => exact ⟨q + 1, by omega, by go_num, hid (fun j e' hj he' => by
          by_cases ej : j = q
          · subst ej; rw [HE.out] at he'; cases he'; rw [HRR.out]; exact hnb
          · exact hall.out j e' (by omega) he')⟩
        case measure => simp only [intOf]; omega
    · have hltd : decide ((q : Int) < M) = false := by simp; omega
      go_wp2
      go_ret
      refine ⟨?_, rfl⟩
      rw [← HB.out]
      have : usedF L n = false := by
        rw [usedF, List.any_eq_false]
        intro e he
        obtain ⟨j, hj⟩ := List.mem_iff_getElem?.1 he
        have := (List.getElem?_eq_some_iff.1 hj).1
        have h2 := HM.out
        rw [hall.out j e (by omega) hj]; decide
      rw [this]; rfl
end

end Go.Proofs.Ytbfaigeopkonbaa
