/-
  Vars: the walk.
-/
import Derived.Test.YtbekgejbgmdbdaaVr
namespace Go.Proofs.Ytbekgejbgmdbdaa
open Go.RowKit Go.Maps Go.Sort Go.Lib
set_option linter.unusedVariables false
set_option maxRecDepth 20000

/-- What a map of terms tells, by its datum. -/
def KvF (N : List Nd) (H : List Nat) (D : DataW Nd) : Prop := ∀ x : Int, (Maps.has D (.int .i64 x) = true ↔ ∃ k ∈ H, x = (k : Nat)) ∧ ∀ k ∈ H, x = (k : Nat) → ∀ zd, D.atKey (.int .i64 x) zd = .held (ndA N (k : Nat))

theorem HeldIs.opened {w : World} {b : Nat} {H : List Nat} {N : List Nd} (h : HeldIs nR w b H (fun j => ndA N (j : Nat))) : ∃ D : DataW Nd, w.ownsMap Try.prog 3 nRd b H.length D ∧ Hid (KvF N H D) := by
  obtain ⟨D, h1, h2, h3⟩ := h
  exact ⟨D, h1, hid h3⟩

structure VR (w0 : World) (N : List Nd) (H T : List Nat) (mb rb : Nat) (D : DataW Nd) (left : Lit → Bool) (cnt : Nat) (xs : List Int) (v : Value) (wr : World) : Prop where
  be : Below w0.heap.size w0 wr
  rg : wr.ranges Try.prog 3 nRd mb rb H.length D left cnt
  lf : ∀ k ∈ H, (left (.int .i64 (k : Nat)) = true ↔ k ∉ T)
  td : T.Nodup
  th : ∀ k ∈ T, k ∈ H
  ow : wr.ownsRow w0.heap.size 3 1 v xs.length (iC xs)
  rw : w0.heap.size ≤ rb

section
variable {w0 wr w2 : World} {N : List Nd} {H T : List Nat} {mb rb : Nat} {D : DataW Nd} {left : Lit → Bool} {cnt : Nat} {xs : List Int} {v : Value}

theorem ranges_iter (h : wr.ranges Try.prog 3 nRd mb rb H.length D left cnt) {j : Nat} {cs : Array Value} {t : TypeId} (hj : wr.heap[j]? = some (.cells cs t (0, 0))) : j ≠ mb ∧ j ≠ rb := by
  obtain ⟨es, clock, since, seen, c0, hb, _, _, _, hr, _⟩ := h
  constructor
  · intro e; subst e; rw [hj] at hb; simp at hb
  · intro e; subst e; rw [hj] at hr; simp at hr

theorem VR.below (h : VR w0 N H T mb rb D left cnt xs v wr) (b : Below wr.heap.size wr w2) : VR w0 N H T mb rb D left cnt xs v w2 :=
  ⟨Below.next h.be b, h.rg.kept (grown_below b) (by simp) (by simp), h.lf, h.td, h.th, own_keep h.ow (grown_below b) (fun j hj => by cases hj), h.rw⟩

theorem VR.push (h : VR w0 N H T mb rb D left cnt xs v wr) {w3 : World} {v3 : Value} {o : Obj} {x : Int} (g : (wr.alloc o).grownBy w3 v.ownBlock) (ow : w3.ownsRow w0.heap.size 3 1 v3 (xs ++ [x]).length (iC (xs ++ [x]))) : VR w0 N H T mb rb D left cnt (xs ++ [x]) v3 w3 := by
  have ha : Below wr.heap.size wr (wr.alloc o) := by go_grown
  have h1 := h.below ha
  have hne : ∀ j, v.ownBlock = some j → j ≠ mb ∧ j ≠ rb := fun j hj => by
    obtain ⟨_, cur, hc⟩ := own_type h1.ow hj
    exact ranges_iter h1.rg hc
  refine ⟨h1.be.grown g h1.be.size (fun j hj => (own_type h1.ow hj).1), h1.rg.kept g (fun e => (hne _ e.symm).1 rfl) (fun e => (hne _ e.symm).2 rfl), h.lf, h.td, h.th, ow, h.rw⟩

/-- One more entry has come. -/
theorem VR.next (h : VR w0 N H T mb rb D left cnt xs v wr) (hkv : KvF N H D) {x : Int} {c : Nd} {kl : Lit} {y : DataW Nd × List MemPlace} {cnt2 : Nat} (hkey : keyOf Try.prog 3 (.int .i64 x) = some kl) (hlk : left kl = true) (hv : nRd (.agg #[.int .i64 c.op, .int .i64 c.wd, .int .i64 c.a, .int .i64 c.b, .int .i64 c.c, .int .u64 c.v]) = some y) (hat : ∀ zd, D.atKey kl zd = y.1)
    (hrg : w2.ranges Try.prog 3 nRd mb rb H.length D (fun z => left z && !z.sameKey kl) cnt2) (hg : wr.grownBy w2 (some rb)) : ∃ j, Hid (j ∈ H ∧ c = ndA N (j : Nat)) ∧ Hid (VR w0 N H (T ++ [j]) mb rb D (fun z => left z && !z.sameKey kl) cnt2 xs v w2) := by
  obtain ⟨x', ex, rfl, hw⟩ := Maps.keyOf_int_inv Try.underlying3 hkey
  cases ex
  have hh := Maps.has_true_of_atKey hat
  obtain ⟨j, hj, e⟩ := (hkv x).1.1 hh
  subst e
  have e1 := (hkv (j : Int)).2 j hj rfl (.held c)
  rw [hat] at e1
  have e2 : y = (.held c, []) := by
    have : nRd (ndV c) = some y := hv
    have h2 : nRd (ndV c) = some (.held c, []) := nR.hR c
    rw [h2] at this
    exact (Option.some.inj this).symm
  rw [e2] at e1
  have e3 : c = ndA N (j : Nat) := by simpa using e1
  have hjT : j ∉ T := (h.lf j hj).1 hlk
  have hrb : rb ≠ mb := hrg.ne
  refine ⟨j, hid ⟨hj, e3⟩, hid ⟨h.be.grown hg h.be.size (fun i hi => by cases hi; exact h.rw), hrg, fun k hk => ?_, ?_, fun k hk => ?_, own_keep h.ow hg (fun i hi e => ?_), h.rw⟩⟩
  · have hs : (Lit.int .i64 (k : Int)).sameKey (.int .i64 (j : Int)) = true ↔ k = j := by
      simp [Lit.sameKey]
      omega
    simp only [Bool.and_eq_true, Bool.not_eq_true', List.mem_append, List.mem_singleton, not_or]
    rw [h.lf k hk]
    constructor
    · rintro ⟨h1, h2⟩
      exact ⟨h1, fun e => by rw [hs.2 e] at h2; cases h2⟩
    · rintro ⟨h1, h2⟩
      refine ⟨h1, ?_⟩
      cases e : (Lit.int .i64 (k : Int)).sameKey (.int .i64 (j : Int))
      · rfl
      · exact absurd (hs.1 e) h2
  · rw [List.nodup_append]
    refine ⟨h.td, by simp, fun a ha b hb => ?_⟩
    simp at hb; subst hb
    intro e; subst e; exact hjT ha
  · rcases List.mem_append.1 hk with hk | hk
    · exact h.th k hk
    · simp at hk; subst hk; exact hj
  · cases hi
    obtain ⟨_, cur, hc⟩ := own_type h.ow e
    exact (ranges_iter h.rg hc).2 rfl

theorem VR.full (h : VR w0 N H T mb rb D left cnt xs v wr) (hl : ∀ kl, left kl = false) {id : Nat} (hb : BelL N id H) : BelL N id T := by
  refine ⟨h.td, fun j => ?_⟩
  rw [← hb.2]
  refine ⟨h.th j, fun hj => ?_⟩
  by_cases e : j ∈ T
  · exact e
  · have := (h.lf j hj).2 e
    rw [hl] at this; cases this

end

theorem key_inv (key : Value) (kl : Lit) (h : keyOf Try.prog 3 key = some kl) : ∃ x : Int, key = (fun x : Int => Value.int .i64 x) x := by
  obtain ⟨x, rfl, _⟩ := Maps.keyOf_int_inv Try.underlying3 h
  exact ⟨x, rfl⟩
theorem val_inv (v : Value) (y : DataW Nd × List MemPlace) (h : nRd v = some y) : ∃ c : Nd, v = (fun c : Nd => Value.agg #[.int .i64 c.op, .int .i64 c.wd, .int .i64 c.a, .int .i64 c.b, .int .i64 c.c, .int .u64 c.v]) c := by
  obtain ⟨c, rfl, _⟩ := nRd_inv v y h
  exact ⟨c, rfl⟩

theorem vr_start {w0 w2 w3 : World} {N : List Nd} {H : List Nat} {mb : Nat} {D : DataW Nd} (b2 : Below w0.heap.size w0 w2) (hkv : KvF N H D) (hrg : w3.ranges Try.prog 3 nRd mb w2.heap.size H.length D (Maps.has D) (Maps.size D)) (hg : w2.grownBy w3 none) :
    VR w0 N H [] mb w2.heap.size D (Maps.has D) (Maps.size D) [] (.slice none 0 0) w3 :=
  ⟨b2.grown hg b2.size (fun j hj => by cases hj), hrg, fun k hk => ⟨fun _ => by simp, fun _ => (hkv (k : Int)).1.2 ⟨k, hk, rfl⟩⟩, List.nodup_nil, fun k hk => by simp at hk, World.ownsRow_nil _ _ _ _, b2.size⟩

theorem vr_sorted {w2 : World} {g n c : Nat} {xs vs : List Int} (h : Holds (Value.int .i64) w2 g 0 (xs.mergeSort fun x y => decide (x ≤ y)).toArray ∧ g < w2.heap.size) (e : (xs.mergeSort fun x y => decide (x ≤ y)) = vs) (hf : Ls.Fit vs) (hn : n = vs.length) (hc : n ≤ c) (hm : c ≤ maxLen) : Ls.Row w2 (some ⟨g, 0, none⟩) n c vs := by
  rw [e] at h
  subst hn
  refine ⟨rfl, hc, hm, fun h => by simp at h, hf, fun _ => ⟨g, 0, rfl, fun j hj => ?_⟩⟩
  have := (h.1 j (by simpa using hj)).1
  rw [this]
  simp [hj, getElem!_pos]

theorem holds_own {w : World} {B g n c : Nat} {xs : List Int} (h : w.ownsRow B 3 1 (.slice (some ⟨g, 0, none⟩) n c) n (iC xs)) (hn : n = xs.length) : Holds (Value.int .i64) w g 0 xs.toArray := by
  subst hn
  intro j hj
  have hj' : j < xs.length := by simpa using hj
  constructor
  · have := h.cellAt j (by omega)
    rw [Nat.zero_add, this]
    simp [iC, hj', getElem!_pos]
  · exact h.frozenAt _

theorem sort_any {w : World} {B : Nat} {v : Value} {xs vs : List Int} (h : w.ownsRow B 3 1 v xs.length (iC xs)) (e : (xs.mergeSort fun x y => decide (x ≤ y)) = vs) (hf : Ls.Fit vs) (hl : xs.length ≤ 1000000) :
    Calls Try.prog 32 #[v] w fun e w' => e = .returned (.tuple #[]) ∧ Hid (∃ ao c, v = .slice ao vs.length c ∧ Ls.Row w' ao vs.length c vs ∧ Below B w w') := by
  have hlen : vs.length = xs.length := by rw [← e]; exact List.length_mergeSort _
  rcases h.2 with ⟨rfl, e2⟩ | ⟨g, cap, cur, rfl, hb, hg, hl2, hm, hs, ht⟩
  · obtain rfl : xs = [] := List.eq_nil_of_length_eq_zero e2
    obtain rfl : vs = [] := List.eq_nil_of_length_eq_zero (hlen.trans e2)
    refine (Try.slices_Sort_int_none none 0 w).mono ?_
    rintro e w' ⟨rfl, rfl⟩
    exact ⟨rfl, hid ⟨none, 0, rfl, row_nil _, Below.refl _ _⟩⟩
  · refine (sort_row g xs.length cap xs w rfl (holds_own h rfl) (blk_lt hg) (by omega)).mono ?_
    rintro e2 w' ⟨rfl, h1, h2⟩
    refine ⟨rfl, hid ⟨_, cap, by rw [hlen], ?_, h2.out.mono hb⟩⟩
    exact vr_sorted h1.out e hf rfl (by omega) hm

theorem VR.few {w0 wr : World} {N : List Nd} {H T : List Nat} {mb rb : Nat} {D : DataW Nd} {left : Lit → Bool} {cnt : Nat} {xs : List Int} {v : Value} (h : VR w0 N H T mb rb D left cnt xs v wr) (r : Wl N) (g : Gd N) {id : Nat} (hi : id < N.length) (hb : BelL N id H) : (vsF N T).length ≤ N.length :=
  Nat.le_trans (vsF_len N T) (nodup_le h.td fun j hj => by have := ((hb.2 j).1 (h.th j hj)).le r g hi; omega)

set_option maxHeartbeats 8000000 in
theorem vars_any {k : K} {w : World} {N : List Nd} {P : Nat → Prop} (s : Dg k w N P) (wl : Wl N) (hL : N.length ≤ 150) (id : Nat) (hi : id < N.length) {vs : List Int} (hv : VarL N id vs) :
    Calls Try.prog 10 #[.pointer (some ⟨k.DB, 0, none⟩), .int .i64 id] w fun e w' => ∃ ao c, e = .returned (.slice ao vs.length c) ∧ Hid (Ls.Row w' ao vs.length c vs) ∧ Hid (Below w.heap.size w w') := by
  have HS := hid s
  have HW := hid wl
  have HL := hid hL
  have HI := hid hi
  have GD := hid s.1
  have HV := hid hv
  have HF : Hid (Ls.Fit vs) := hid (vs_fit s.1 hv fun j hj => by have := hj.le wl s.1 hi; omega)
  clear s wl hL hi hv
  go_enter Try.func10, Try.ntmps10
  go_wp2_with (first
    | (go_at_call 30; with_reducible (refine (reckon_n HS.out HW.out HL.out id HI.out).mono ?_); rintro e w2 ⟨mb, H, rfl, h2, l2, b2⟩; obtain ⟨D, hown, hkv⟩ := h2.out.opened)
    | (at_range; refine wpList_range_own _ rfl _ 68 rfl 3 61 law3 Try.underlying68 nRd mb H.length D rfl hown ?_; intro w3 hrg0 hg0 hs0))
  go_frame
  have V0 := hid (vr_start b2.out hkv.out hrg0 hg0)
  clear h2 b2 hown hrg0 hg0 hs0
  revert V0
  generalize w2.heap.size = rb
  intro V0
  go_loopw [5] (fun v wr => ∃ T left cnt, Hid (VR w N H T mb rb D left cnt (vsF N T) v wr)) (fun _ wr => wr.rangeLeft mb rb)
  case atStart => exact ⟨[], _, _, V0⟩
  case round =>
    clear V0
    obtain ⟨T, left, cnt, hvr⟩ := hrel
    have hrg := hvr.out.rg
    have HTL : Hid ((vsF N T).length ≤ 1000000) := hid (by have := hvr.out.few HW.out GD.out HI.out l2.out; have := HL.out; omega)
    have hbz := hvr.out.be.size
    go_wp2_with (first
      | (at_next; refine wpList_next_ranges _ rfl _ rfl 3 law3 nRd (fun x : Int => Value.int .i64 x) (fun c : Nd => Value.agg #[.int .i64 c.op, .int .i64 c.wd, .int .i64 c.a, .int .i64 c.b, .int .i64 c.c, .int .u64 c.v]) key_inv val_inv mb rb H.length D left cnt rfl hrg ?_ ?_; intro hc0 hl0; rotate_left; intro x c kl y w4 cnt4 hkey hlk hRv hat hrg4 hlt4 hgr4 hsz4 hen; obtain ⟨j, hj, hvr4⟩ := hvr.out.next hkv.out hkey hlk hRv hat hrg4 hgr4; have B4 := hid (hvr4.out.below (new_b w4 (.cells #[.int .i64 c.op, .int .i64 c.wd, .int .i64 c.a, .int .i64 c.b, .int .i64 c.c, .int .u64 c.v] 61))); have HQ : Hid (wr.heap.size + 1 = (w4.alloc (.cells #[.int .i64 c.op, .int .i64 c.wd, .int .i64 c.a, .int .i64 c.b, .int .i64 c.c, .int .u64 c.v] 61)).heap.size) := hid (by simp [hsz4]); have HLT4 := hid hlt4; cases hop : (c.op == 21))
      | (at_builtin; refine append_int rfl (.tmp 19) (.tmp 22) rfl w.heap.size _ (vsF N T) c.a rfl B4.out.ow (wr.heap.size + 1) HQ.out rfl HTL.out (by have := B4.out.be.size; omega) ?_; intro v6 w6 ow6 gr6)
      | (go_at_call 32; with_reducible (refine (sort_any hvr.out.ow (vars_sorted HW.out GD.out HI.out (hvr.out.full hl0 l2.out) HV.out) HF.out HTL.out).mono ?_); rintro e w5 ⟨rfl, hs5⟩))
    · have hvj : isV N j = false := by rw [isV, ← hj.out.2]; exact hop
      exact ⟨⟨T ++ [j], _, _, by rw [vsF_no hvj]; exact B4⟩, by rw [B4.out.rg.left_eq, hvr.out.rg.left_eq]; exact HLT4.out⟩
    · have hvj : isV N j = true := by rw [isV, ← hj.out.2]; exact hop
      have B6 := hid (B4.out.push gr6.out ow6.out)
      exact ⟨⟨T ++ [j], _, _, by rw [vsF_yes hvj, ← hj.out.2]; exact B6⟩, by rw [B6.out.rg.left_eq, hvr.out.rg.left_eq]; exact HLT4.out⟩
    · go_ret
      obtain ⟨ao, c, hv5, hr5, hb5⟩ := hs5.out
      exact ⟨ao, c, by rw [hv5]; rfl, hid hr5, hid (hvr.out.be.trans hb5)⟩

end Go.Proofs.Ytbekgejbgmdbdaa
