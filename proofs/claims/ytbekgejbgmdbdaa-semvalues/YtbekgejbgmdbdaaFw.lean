/-
  A term's word fits its width, and hangs on its own variables alone: the walk.
-/
import Derived.Test.YtbekgejbgmdbdaaAwake
namespace Go.Proofs.Ytbekgejbgmdbdaa
open Go.RowKit Go.Maps
open Go.ChangeShapes Go.WideShapes Go.ChangeAt
set_option linter.unusedVariables false
set_option maxRecDepth 20000

theorem us_of {H : Type} {enc : TypeId × Value → H} {W : World} {base : Nat} {held : Bool} {fuel : Nat} {a : Option Addr} {len cap : Nat} {x : DataW H × List MemPlace}
    (h : DataW.trod enc Try.prog W base (fun _ => true) held fuel 23 (Value.slice a len cap).cells.toList = some x) : ∃ E, Us W a len E := by
  rcases open_ints Try.underlying23 Try.underlying32 (by kernel_rfl) h with ⟨hcs, _⟩ | ⟨x, l, c, zs, hcs, _, hl, hm, hz, _, hc, hw⟩
  · simp [Value.cells] at hcs
    obtain ⟨rfl, rfl, rfl⟩ := hcs
    exact ⟨[], us_none W⟩
  · simp [Value.cells] at hcs
    obtain ⟨rfl, rfl, rfl⟩ := hcs
    have hz2 : zs.length = cap := by simpa using hz
    obtain ⟨b, off, spot⟩ := x
    refine ⟨zs.take len, by rw [List.length_take]; omega, fun x hx => ?_, fun h0 => ?_⟩
    · have := hw x (List.mem_of_mem_take hx)
      simp [Lit.wf, IntKind.min, IntKind.max, IntKind.signed, IntKind.bits] at this
      omega
    · have hspot : spot = none := by simpa [Addr.add] using World.cell?_spot (hc 0 (by omega))
      subst hspot
      refine ⟨b, off, rfl, fun j hj => ?_⟩
      have := hc j (by omega)
      have e : (zs.take len).getD j 0 = zs.getD j 0 := by simp [hj]
      rw [e, ← this]
      by_cases h0 : j = 0
      · subst h0; simp [Addr.add]
      · simp [Addr.add, h0]

/-- Behind Build: terms, the document's in the box XB. -/
structure LS (w0 : World) (k : K) (XB : Nat) (N : List Nd) (P : Nat → Prop) (ao : Option Addr) (c : Nat) (wr : World) : Prop where
  be : Below w0.heap.size w0 wr
  xb : wr.heap[XB]? = some (.cells #[.slice ao N.length c, .int .i64 k.M] 28 (0, 0))
  dg : Dg k wr N P
  rd : RD wr ao c N

theorem LS.below {w0 wr w2 : World} {k : K} {XB : Nat} {N : List Nd} {P : Nat → Prop} {ao : Option Addr} {c : Nat} (h : LS w0 k XB N P ao c wr) (b : Below wr.heap.size wr w2) : LS w0 k XB N P ao c w2 :=
  ⟨Below.next h.be b, by rw [b.block _ (blk_lt h.xb)]; exact h.xb, h.dg.below b, h.rd.below b⟩
theorem LS.two {w0 wr : World} {k : K} {XB : Nat} {N : List Nd} {P : Nat → Prop} {ao : Option Addr} {c : Nat} (h : LS w0 k XB N P ao c wr) : wr.cell? ⟨XB, 0, none⟩ = some (.slice ao N.length c) ∧ wr.cell? ⟨XB, 1, none⟩ = some (.int .i64 k.M) := two_of h.xb
theorem ls_start {w0 w1 : World} {k : K} {N : List Nd} {P : Nat → Prop} {ao : Option Addr} {c : Nat} (s : Dg k w1 N P) (r : RD w1 ao c N) (b : Below w0.heap.size w0 w1) : LS w0 k w1.heap.size N P ao c (w1.alloc (.cells #[.slice ao N.length c, .int .i64 k.M] 28)) := by
  have b2 : Below w1.heap.size w1 (w1.alloc (.cells #[.slice ao N.length c, .int .i64 k.M] 28)) := by go_grown
  exact ⟨Below.next b b2, new_same _ _, s.below b2, r.below b2⟩

theorem rcut_is (a : Int) {x y : Int} (w : World) (hx : Wd64 x) (hy : cutF a x = y) : Calls Try.prog 15 #[.int .i64 a, .int .u64 x] w fun e w' => e = .returned (.int .u64 y) ∧ w' = w := by
  subst hy; exact rcut_any a x w hx.1 hx.2

theorem var_some {N : List Nd} (r : Wl N) (g : Gd N) {i : Nat} (hi : i < N.length) : ∃ vs, VarL N i vs := by
  obtain ⟨B, hB⟩ := bel_some r g hi
  refine ⟨(vsF N B).mergeSort fun x y => decide (x ≤ y), ?_⟩
  have hp := List.mergeSort_perm (vsF N B) (fun x y => decide (x ≤ y))
  have hlt : ∀ j ∈ B, j < N.length := fun j hj => by have := ((hB.2 j).1 hj).le r g hi; omega
  have hnd : (vsF N B).Nodup := by
    unfold vsF
    refine List.pairwise_map.2 (pw_of (hB.1.filter _) fun x hx y hy hne e => hne ?_)
    obtain ⟨hx1, hx2⟩ := List.mem_filter.1 hx
    obtain ⟨hy1, hy2⟩ := List.mem_filter.1 hy
    exact var_one r g (hlt x hx1) (hlt y hy1) hx2 hy2 e
  have hs : ((vsF N B).mergeSort fun x y => decide (x ≤ y)).Pairwise (· ≤ ·) := by
    have := List.pairwise_mergeSort (le := fun x y : Int => decide (x ≤ y)) (fun a b c => by simp; omega) (fun a b => by simp; omega) (vsF N B)
    exact pw_of this fun a _ b _ h => by simpa using h
  have hn2 : ((vsF N B).mergeSort fun x y => decide (x ≤ y)).Nodup := hp.nodup_iff.2 hnd
  refine ⟨pw_of (hs.and hn2) fun a _ b _ h => by have := h.1; have := h.2; omega, fun a => ?_⟩
  rw [hp.mem_iff]
  unfold vsF
  rw [List.mem_map]
  constructor
  · rintro ⟨j, hj, e⟩
    obtain ⟨h1, h2⟩ := List.mem_filter.1 hj
    exact ⟨j, (hB.2 j).1 h1, h2, e⟩
  · rintro ⟨j, hj, h2, e⟩
    exact ⟨j, List.mem_filter.2 ⟨(hB.2 j).2 hj, h2⟩, e⟩

/-- All of these variables have the same words. -/
def eqE (E F : List Int) (vs : List Int) : Bool := vs.all fun a => enF E a == enF F a
theorem eqE_step {E F vs : List Int} {q : Nat} {y : Int} (hy : vs[q]? = some y) : eqE E F (vs.take (q + 1)) = (eqE E F (vs.take q) && (enF E y == enF F y)) := by
  unfold eqE
  rw [List.take_add_one, hy]
  simp
theorem same_word {N : List Nd} (r : Wl N) (g : Gd N) {E F vs : List Int} {i : Nat} (hi : i < N.length) (hv : VarL N i vs) (h : eqE E F vs = true) : vF N E i = vF N F i := by
  refine vF_dep r g E F i hi fun j hj hvj => ?_
  unfold eqE at h
  rw [List.all_eq_true] at h
  have := h _ ((hv.2 _).2 ⟨j, hj, hvj, rfl⟩)
  simpa using this
theorem vs_nat {N : List Nd} (r : Wl N) (g : Gd N) {i : Nat} (hi : i < N.length) {vs : List Int} (hv : VarL N i vs) : ∀ a ∈ vs, 0 ≤ a := by
  intro a ha
  obtain ⟨j, h1, h2, rfl⟩ := (hv.2 a).1 ha
  have hj : j < N.length := by have := h1.le r g hi; omega
  exact (g.vr _ (ndA_mem (isN_nat hj)) (by simpa [isV] using h2)).1

end Go.Proofs.Ytbekgejbgmdbdaa
