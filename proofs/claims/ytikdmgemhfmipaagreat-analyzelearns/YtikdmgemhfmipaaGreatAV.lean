/-
  Glue: how many levels.
-/
import Derived.Test.YtikdmgemhfmipaaGreatAU
namespace Go.Proofs.YtikdmgemhfmipaaGreat
open Go.RowKit
set_option linter.unusedVariables false

def glueS (L : List E) (q : (Nat → Nat) × Nat) (x : Int) : (Nat → Nat) × Nat :=
  if 0 < levelF L (vl x : Nat) ∧ q.1 (levelF L (vl x : Nat) - 1).toNat ≠ 1 then (upN q.1 (levelF L (vl x : Nat) - 1).toNat 1, q.2 + 1) else q

def glueF (L : List E) (xs : List Int) : (Nat → Nat) × Nat := xs.foldl (glueS L) (fun _ => 0, 0)

theorem glue_snoc {L : List E} {xs : List Int} {q : Nat} {x : Int} (h : xs[q]? = some x) : glueF L (xs.take (q + 1)) = glueS L (glueF L (xs.take q)) x := by
  rw [take_snoc h]; unfold glueF; rw [List.foldl_append]; rfl

/-- Marks of one's own. -/
structure Gl (w : World) (MB : Nat) (mk : Nat → Nat) (pb : Option Nat) (cs : Array Value) (wr : World) : Prop where
  blk : wr.heap[MB]? = some (.cells cs 69 (0, 0))
  ptr : cs[0]? = some (ptrO pb)
  pg : Pg wr pb mk
  pl : ∀ b, pb = some b → MB < b
  be : Below w.heap.size w wr
  lo : w.heap.size ≤ MB

theorem Gl.below {w : World} {MB : Nat} {mk : Nat → Nat} {pb : Option Nat} {cs : Array Value} {wr w' : World} (h : Gl w MB mk pb cs wr) (b : Below wr.heap.size wr w') : Gl w MB mk pb cs w' := by
  refine ⟨by rw [b.block _ (blk_lt h.blk)]; exact h.blk, h.ptr, h.pg.keep (fun q e => ?_), h.pl, Below.next h.be b, h.lo⟩
  have := h.pg
  rw [e] at this
  obtain ⟨pc, hp, _⟩ := this
  exact b.block _ (blk_lt hp)

theorem Gl.set {w : World} {MB : Nat} {mk : Nat → Nat} {pb pb' : Option Nat} {cs cs' : Array Value} {wr w' : World} {i m : Nat} (h : Gl w MB mk pb cs wr) (e : MarkEnd wr MB 0 69 cs pb mk i m pb' cs' w') : Gl w MB (upN mk i m) pb' cs' w' := by
  refine ⟨e.blk, e.ptr, e.pg, fun b hb => ?_, ?_, h.lo⟩
  · rcases e.nw with q | q
    · exact h.pl b (by rw [← q]; exact hb)
    · rw [q] at hb; cases hb; exact blk_lt h.blk
  · refine h.be.trans ⟨e.os, e.tape, e.output, e.size, fun j hj => e.block j ?_ ?_ (fun c => ?_)⟩
    · have := h.be.size; omega
    · have := h.lo; omega
    · have := h.pl j c; have := h.lo; omega

section
variable {k : K} {w : World} {L : List E} {lev : Nat} {p : V}

theorem z69_at : Tryz.zeroCells69[0]? = some (.pointer none) := by kernel_rfl

theorem levelF_le (t : Trl k w L lev p) (v : Int) : -1 ≤ levelF L v ∧ levelF L v ≤ lev := by
  obtain ⟨F, S, s, g, e⟩ := t
  unfold levelF
  cases ha : atF L v with
  | none => simp only; omega
  | some e' =>
    have := g.lv e' (at_some ha).1
    simp only
    omega

theorem glue_count (L : List E) (xs : List Int) : (glueF L xs).2 ≤ xs.length := by
  unfold glueF
  have : ∀ (ys : List Int) (q : (Nat → Nat) × Nat), (ys.foldl (glueS L) q).2 ≤ q.2 + ys.length := by
    intro ys
    induction ys with
    | nil => intro q; simp
    | cons y ys ih =>
      intro q
      have h1 := ih (glueS L q y)
      have h2 : (glueS L q y).2 ≤ q.2 + 1 := by unfold glueS; split <;> simp
      simp only [List.foldl_cons, List.length_cons]
      omega
  have := this xs (fun _ => 0, 0)
  simpa using this

set_option maxHeartbeats 2000000 in
theorem glue_is (t : Trl k w L lev p) (hn : k.n ≤ 4096) {ao : Option Addr} {m cap : Nat} {xs : List Int} (row : U.Row w ao m cap xs) (hx : ∀ x ∈ xs, 0 ≤ x) (hm : m ≤ 100000) :
    Calls Tryz.prog 16 #[.pointer (some ⟨k.OB, 0, none⟩), .slice ao m cap] w fun e w' => e = .returned (.int .i64 ((glueF L xs).2 : Nat)) ∧ Below w.heap.size w w' := by
  have HT := hid t
  have HR := hid row
  have HX := hid hx
  have hlen := row.1
  have hlev : lev ≤ 4096 := by have := t.len; omega
  have HG : Hid (Gl w w.heap.size (glueF L (xs.take 0)).1 none Tryz.zeroCells69 (w.alloc (.cells Tryz.zeroCells69 69))) := hid ⟨new_same w _, z69_at, fun i _ => rfl, fun b e => (by cases e), by go_grown, Nat.le_refl _⟩
  have H1 : Hid (((1 : Nat) : Int) = 1) := hid rfl
  clear t row hx
  go_enter Tryz.func16, Tryz.ntmps16
  go_wp2
  go_loopw [6, 8, 9, 12] (fun c _ _ i wr => ∃ (q : Nat) (n0 : Nat), q ≤ m ∧ c = .int .i64 n0 ∧ i = .int .i64 q ∧ Hid (n0 = (glueF L (xs.take q)).2) ∧ ∃ pb cs, Hid (Gl w w.heap.size (glueF L (xs.take q)).1 pb cs wr)) (fun _ _ _ i _ => m - (intOf i).toNat)
  case atStart => exact ⟨0, 0, Nat.zero_le _, rfl, rfl, hid rfl, none, _, HG⟩
  case round =>
    obtain ⟨q, n0, hq, rfl, rfl, hc0, pb, cs, hg⟩ := hrel
    by_cases hlt : q < m
    · have hlt' : (q : Int) < m := by omega
      obtain ⟨b, off, y, rfl, hc, hy, y0, y1⟩ := (HR.out.keep hg.out.be).at hlt
      have hy0 := HX.out y (List.mem_of_getElem? hy.out)
      obtain ⟨u, rfl⟩ := Int.eq_ofNat_of_zero_le hy0
      have hvu : vl (u : Int) = u / 2 := by unfold vl; simp
      obtain ⟨ll, hll⟩ : ∃ ll, levelF L ((u / 2 : Nat) : Int) = ll := ⟨_, rfl⟩
      have hle := levelF_le HT.out ((u / 2 : Nat) : Int)
      rw [hll] at hle
      have HLL := hid hll
      have HU : Hid (u / 2 = u / 2) := hid rfl
      obtain ⟨vv, hvv⟩ : ∃ vv, u / 2 = vv := ⟨_, rfl⟩
      have HV := hid hvv
      rw [hvv] at hll
      have HL2 := hid hll
      have HS := hid (glue_snoc (L := L) hy.out)
      have hn0 : n0 ≤ 100000 := by have h1 := glue_count L (xs.take q); have h2 := hc0.out; rw [List.length_take] at h1; omega
      clear hll hvv
      by_cases hpos : 0 < ll
      · obtain ⟨i, hi⟩ := Int.eq_ofNat_of_zero_le (show 0 ≤ ll - 1 by omega)
        have hi4 : i < 4096 := by omega
        have hll1 : ll - 1 = (i : Int) := hi
        have hlli : ll = (i : Int) + 1 := by omega
        have HI : Hid ((ll - 1).toNat = i) := hid (by omega)
        obtain ⟨y2, hy2⟩ : ∃ y2, (glueF L (xs.take q)).1 i = y2 := ⟨_, rfl⟩
        have HY : Hid ((((glueF L (xs.take q)).1 i : Nat) : Int) = (y2 : Int)) := hid (by rw [hy2])
        by_cases hmk : y2 = 1
        · subst hmk
          have hmb : (((1 : Nat) : Int) != 1) = false := by simp
          have HE : Hid (glueS L (glueF L (xs.take q)) u = glueF L (xs.take q)) := hid (by
            unfold glueS
            rw [hvu, HLL.out, HI.out, hy2, if_neg (by simp)])
          clear hy2 hi hpos
          subst hlli
          have hpos' : (0 : Int) < (i : Int) + 1 := by omega
          go_wp2_with (first
            | (go_at_call 31; with_reducible (refine (var_nat u vv HV.out y1 _).mono ?_); rintro e w2 ⟨rfl, b2⟩; have G2 := hid (hg.out.below b2))
            | (go_at_call 26; with_reducible (refine (level_is (HT.out.below G2.out.be) _ HL2.out).mono ?_); rintro e w2 ⟨rfl, rfl⟩)
            | (go_at_call 39; with_reducible (refine (of_is ((cell_of G2.out.blk).trans G2.out.ptr) G2.out.pg i hi4 HY.out).mono ?_); rintro e w2 ⟨rfl, rfl⟩))
          go_roundw
          case rel => exact ⟨q + 1, n0, by omega, rfl, by go_num, hid (by rw [HS.out, HE.out]; exact hc0.out), pb, cs, hid (by rw [HS.out, HE.out]; exact G2.out)⟩
          case measure => simp only [intOf]; omega
        · have hmb : ((y2 : Int) != 1) = true := by simp; omega
          have HE : Hid (glueS L (glueF L (xs.take q)) u = (upN (glueF L (xs.take q)).1 i 1, (glueF L (xs.take q)).2 + 1)) := hid (by
            unfold glueS
            rw [hvu, HLL.out, HI.out, hy2, if_pos ⟨hpos, hmk⟩])
          clear hy2 hi hpos
          subst hlli
          have hpos' : (0 : Int) < (i : Int) + 1 := by omega
          have HPL : Hid (∀ b, pb = some b → b ≠ w.heap.size) := hid (fun b e => by have := hg.out.pl b e; omega)
          go_wp2_with (first
            | (go_at_call 31; with_reducible (refine (var_nat u vv HV.out y1 _).mono ?_); rintro e w2 ⟨rfl, b2⟩; have G2 := hid (hg.out.below b2))
            | (go_at_call 26; with_reducible (refine (level_is (HT.out.below G2.out.be) _ HL2.out).mono ?_); rintro e w2 ⟨rfl, rfl⟩)
            | (go_at_call 39; with_reducible (refine (of_is ((cell_of G2.out.blk).trans G2.out.ptr) G2.out.pg i hi4 HY.out).mono ?_); rintro e w2 ⟨rfl, rfl⟩)
            | (go_at_call 40; with_reducible (refine (set_is G2.out.blk G2.out.ptr G2.out.pg HPL.out i hi4 1 H1.out).mono ?_); rintro e w3 ⟨rfl, pb3, cs3, he3⟩; have G3 := hid (G2.out.set he3.out)))
          go_roundw
          case rel => exact ⟨q + 1, n0 + 1, by omega, by go_num, by go_num, hid (by rw [HS.out, HE.out, hc0.out]), pb3, cs3, hid (by rw [HS.out, HE.out]; exact G3.out)⟩
          case measure => simp only [intOf]; omega
      · have HE : Hid (glueS L (glueF L (xs.take q)) u = glueF L (xs.take q)) := hid (by
          unfold glueS
          rw [hvu, HLL.out, if_neg (fun c => hpos c.1)])
        go_wp2_with (first
          | (go_at_call 31; with_reducible (refine (var_nat u vv HV.out y1 _).mono ?_); rintro e w2 ⟨rfl, b2⟩; have G2 := hid (hg.out.below b2))
          | (go_at_call 26; with_reducible (refine (level_is (HT.out.below G2.out.be) _ HL2.out).mono ?_); rintro e w2 ⟨rfl, rfl⟩))
        go_roundw
        case rel => exact ⟨q + 1, n0, by omega, rfl, by go_num, hid (by rw [HS.out, HE.out]; exact hc0.out), pb, cs, hid (by rw [HS.out, HE.out]; exact G2.out)⟩
        case measure => simp only [intOf]; omega
    · obtain rfl : q = m := by omega
      have hlt' : ¬ (q : Int) < q := by omega
      have e1 : xs.take q = xs := List.take_of_length_le (by omega)
      have hc1 := hc0.out
      rw [e1] at hc1
      have HB := hid hg.out.be
      have HC1 := hid hc1
      clear hc1
      go_wp2
      go_ret
      exact ⟨by rw [← HC1.out]; rfl, HB.out⟩

set_option maxHeartbeats 2000000 in
theorem glue_none {w : World} {ao : Option Addr} {m cap : Nat} {xs : List Int} (row : U.Row w ao m cap xs) (hx : ∀ x ∈ xs, 0 ≤ x) (hm : m ≤ 100000) :
    Calls Tryz.prog 16 #[.pointer none, .slice ao m cap] w fun e w' => e = .returned (.int .i64 0) ∧ Below w.heap.size w w' := by
  have HR := hid row
  have HX := hid hx
  have hlen := row.1
  have HB : Hid (Below w.heap.size w (w.alloc (.cells Tryz.zeroCells69 69))) := hid (by go_grown)
  clear row hx
  go_enter Tryz.func16, Tryz.ntmps16
  go_wp2
  go_loopw [6, 8, 9, 12] (fun c _ _ i wr => ∃ (q : Nat), q ≤ m ∧ c = .int .i64 0 ∧ i = .int .i64 q ∧ Hid (Below w.heap.size w wr)) (fun _ _ _ i _ => m - (intOf i).toNat)
  case atStart => exact ⟨0, Nat.zero_le _, rfl, rfl, HB⟩
  case round =>
    obtain ⟨q, hq, rfl, rfl, hg⟩ := hrel
    by_cases hlt : q < m
    · have hlt' : (q : Int) < m := by omega
      obtain ⟨b, off, y, rfl, hc, hy, y0, y1⟩ := (HR.out.keep hg.out).at hlt
      have hy0 := HX.out y (List.mem_of_getElem? hy.out)
      obtain ⟨u, rfl⟩ := Int.eq_ofNat_of_zero_le hy0
      obtain ⟨vv, hvv⟩ : ∃ vv, u / 2 = vv := ⟨_, rfl⟩
      have HV := hid hvv
      clear hvv
      go_wp2_with (first
        | (go_at_call 31; with_reducible (refine (var_nat u vv HV.out y1 _).mono ?_); rintro e w2 ⟨rfl, b2⟩; have G2 := hid (Below.next hg.out b2))
        | (go_at_call 26; with_reducible (refine (level_none _ _).mono ?_); rintro e w2 ⟨rfl, rfl⟩))
      go_roundw
      case rel => exact ⟨q + 1, by omega, rfl, by go_num, G2⟩
      case measure => simp only [intOf]; omega
    · obtain rfl : q = m := by omega
      have hlt' : ¬ (q : Int) < q := by omega
      go_wp2
      go_ret
      exact ⟨rfl, hg.out⟩
end

end Go.Proofs.YtikdmgemhfmipaaGreat
