/-
  The document's side: what is known of variables; whether a literal holds.
-/
import Derived.Test.YtifecnnkkbpglaaGw
import Derived.Deep.Quiet
import Derived.BigQuiet
namespace Go.Proofs.Ytifecnnkkbpglaa
open Go.RowKit
set_option linter.unusedVariables false

/-! ### a region that draws its order, only reads, and calls what lays blocks -/
/-- A world that is w0, and more. -/
structure BW (w0 : World) where
  w : World
  be : Below w0.heap.size w0 w

theorem below_drew (w : World) : Below w.heap.size w w.drew := (Below.refl _ _).drew

theorem wp_region_below {P : Program} {id : Nat} {Q : Exit → Act → World → Prop} {a : Act} {w : World} {l : List Oper} (hm : P.follows .mixedOrders = true) (hB : Region.lexB .any l.toArray = true)
    (h : wpQuiet P l.toArray (fun w' => ∃ p : BW w, w' = p.w) (fun a' => ∀ w', (∃ p : BW w, w' = p.w) → Q .normal a' w') l a) : (Code.region id l.toArray true).wp P Q a w :=
  wp_region_quiet (C := fun w' => ∃ p : BW w, w' = p.w) hm hB ⟨⟨w.drew, below_drew w⟩, rfl⟩ (by simpa using h)

theorem BW.cell {w0 : World} {a : Addr} {v : Value} (h : w0.cell? a = some v) (p : BW w0) : p.w.cell? a = some v := (p.be.cell (cell_lt h)).trans h

theorem bw_of {P : Program} {f : FuncId} {args : Array Value} {w0 : World} {p : BW w0} {v : Value} (h : Calls P f args p.w fun e w' => e = .returned v ∧ Hid (Below p.w.heap.size p.w w')) : Calls P f args p.w fun e w'' => e = .returned v ∧ ∃ p' : BW w0, w'' = p'.w :=
  h.mono fun _ w' ⟨he, hq⟩ => ⟨he, ⟨w', Below.next p.be hq.out⟩, rfl⟩
theorem bw_same {P : Program} {f : FuncId} {args : Array Value} {w0 : World} {p : BW w0} {v : Value} (h : Calls P f args p.w fun e w' => e = .returned v ∧ w' = p.w) : Calls P f args p.w fun e w'' => e = .returned v ∧ ∃ p' : BW w0, w'' = p'.w :=
  h.mono fun _ w' ⟨he, hq⟩ => ⟨he, p, hq⟩

/-! ### what is known -/
/-- Of each variable whether it is known, and what it is. -/
def Vs (w : World) (kb ib n : Nat) (K I : Nat → Bool) : Prop := ∀ i, i < n → w.cell? ⟨kb, i, none⟩ = some (.bool (K i)) ∧ w.cell? ⟨ib, i, none⟩ = some (.bool (I i))

theorem Vs.keep {w w' : World} {kb ib n : Nat} {K I : Nat → Bool} (h : Vs w kb ib n K I) (b : Below w.heap.size w w') : Vs w' kb ib n K I := fun i hi => by
  obtain ⟨h1, h2⟩ := h i hi
  exact ⟨(b.cell (cell_lt h1)).trans h1, (b.cell (cell_lt h2)).trans h2⟩

def knF (n : Nat) (K : Nat → Bool) (x : Int) : Bool := okF n x && K (x / 2).toNat
def isF (n : Nat) (K I : Nat → Bool) (x : Int) : Bool := knF n K x && (I (x / 2).toNat != negF x)

theorem fits_any (w : World) (kb ib n : Nat) (hn : n ≤ 10000) (x : Int) (x1 : x ≤ 9223372036854775807) :
    Calls Try.prog 45 #[.agg #[.slice (some ⟨kb, 0, none⟩) n n, .slice (some ⟨ib, 0, none⟩) n n], .int .i64 x] w fun e w' => e = .returned (.bool (okF n x)) ∧ Hid (Below w.heap.size w w') := by
  by_cases h0 : 0 ≤ x
  · by_cases h1 : x / 2 < n
    · have HV : Hid (okF n x = true) := hid (by simp [okF]; omega)
      go_enter Try.func45, Try.ntmps45
      go_wp2
      go_ret
      exact ⟨by rw [HV.out]; rfl, hid (by go_grown)⟩
    · have HV : Hid (okF n x = false) := hid (by simp [okF]; omega)
      go_enter Try.func45, Try.ntmps45
      go_wp2
      go_ret
      exact ⟨by rw [HV.out]; rfl, hid (by go_grown)⟩
  · have HV : Hid (okF n x = false) := hid (by simp [okF]; omega)
    go_enter Try.func45, Try.ntmps45
    go_wp2
    go_ret
    exact ⟨by rw [HV.out]; rfl, hid (by go_grown)⟩

theorem box_cells (w : World) (u v : Value) : (w.alloc (.cells #[u, v] 37)).cell? ⟨w.heap.size, 0, none⟩ = some u ∧ (w.alloc (.cells #[u, v] 37)).cell? ⟨w.heap.size, 1, none⟩ = some v := by
  rw [cell_of (new_same w _), cell_of (new_same w _)]; exact ⟨rfl, rfl⟩

set_option maxHeartbeats 2000000 in
theorem holds_any (w : World) (kb ib n : Nat) (K I : Nat → Bool) (hv : Vs w kb ib n K I) (hn : n ≤ 10000) (x : Int) (x1 : x ≤ 9223372036854775807) :
    Calls Try.prog 46 #[.agg #[.slice (some ⟨kb, 0, none⟩) n n, .slice (some ⟨ib, 0, none⟩) n n], .int .i64 x] w fun e w' => e = .returned (.tuple #[.bool (isF n K I x), .bool (knF n K x)]) ∧ Hid (Below w.heap.size w w') := by
  have b1 : Below w.heap.size w (w.alloc (.cells #[.slice (some ⟨kb, 0, none⟩) n n, .slice (some ⟨ib, 0, none⟩) n n] 37)) := (Below.refl _ _).alloc (Nat.le_refl _) _
  obtain ⟨c0, c1⟩ := box_cells w (.slice (some ⟨kb, 0, none⟩) n n) (.slice (some ⟨ib, 0, none⟩) n n)
  have HB := hid b1
  have HVS := hid hv
  clear b1 hv
  cases ho : okF n x
  · have HV : Hid (isF n K I x = false ∧ knF n K x = false) := hid (by simp [isF, knF, ho])
    have HO := hid ho
    clear ho
    go_enter Try.func46, Try.ntmps46
    go_wp2_with (go_at_call 45; with_reducible (refine (fits_any _ kb ib n hn x x1).mono ?_); rintro e w1 ⟨rfl, hb1⟩; rw [HO.out])
    go_ret2
    exact ⟨by rw [HV.out.1, HV.out.2]; rfl, hid (Below.next HB.out hb1.out)⟩
  · have hr := okF_rng.1 ho
    obtain ⟨k, hk⟩ : ∃ k : Nat, x / 2 = k := ⟨(x / 2).toNat, by unfold rng at hr; omega⟩
    have hkn : k < n := by unfold rng at hr; omega
    have hkn' : (k : Int) < n := by omega
    have hx0 : ¬ x < 0 := by unfold rng at hr; omega
    obtain ⟨v1, v2⟩ := HVS.out k hkn
    have e2 : (x / 2).toNat = k := by omega
    have HO := hid ho
    cases hK : K k
    · have HV : Hid (isF n K I x = false ∧ knF n K x = false) := hid (by simp [isF, knF, e2, hK])
      rw [hK] at v1
      clear ho hr e2
      go_enter Try.func46, Try.ntmps46
      go_wp2_with (go_at_call 45; with_reducible (refine (fits_any _ kb ib n hn x x1).mono ?_); rintro e w1 ⟨rfl, hb1⟩; rw [HO.out]; have d0 := (hb1.out.cell (cell_lt c0)).trans c0; have bb := Below.next HB.out hb1.out; have v3 := (bb.cell (cell_lt v1)).trans v1)
      go_ret2
      exact ⟨by rw [HV.out.1, HV.out.2]; rfl, hid bb⟩
    · have HV : Hid (isF n K I x = (I k != negF x) ∧ knF n K x = true) := hid (by simp [isF, knF, e2, hK, ho])
      rw [hK] at v1
      clear ho hr e2
      go_enter Try.func46, Try.ntmps46
      go_wp2_with (go_at_call 45; with_reducible (refine (fits_any _ kb ib n hn x x1).mono ?_); rintro e w1 ⟨rfl, hb1⟩; rw [HO.out]; have d0 := (hb1.out.cell (cell_lt c0)).trans c0; have d1 := (hb1.out.cell (cell_lt c1)).trans c1; have bb := Below.next HB.out hb1.out; have v3 := (bb.cell (cell_lt v1)).trans v1; have v4 := (bb.cell (cell_lt v2)).trans v2)
      have X1 := BW.cell d1
      have X2 := BW.cell v4
      haveI : Inhabited (BW w1) := ⟨⟨w1, Below.refl _ _⟩⟩
      refine wp_region_below (by kernel_rfl) (by kernel_rfl) ?_
      repeat (go_big_quiet_step (first | (go_at_call 47; exact bw_same (rneg_any x _ x1)) | fail))
      refine wpQuiet_nil ?_
      intro _ hw
      obtain ⟨p, hw2⟩ := hw
      subst hw2
      go_wp2_with fail
      go_ret2
      exact ⟨by rw [HV.out.1, HV.out.2]; rfl, hid (Below.next bb p.be)⟩

end Go.Proofs.Ytifecnnkkbpglaa
