/-
  Keep: which clauses are kept.
-/
import Derived.Test.YtodhganfjeojoaaSort
namespace Go.Proofs.Ytodhganfjeojoaa
open Go.RowKit Go.Sort
set_option linter.unusedVariables false

theorem Try.info4 : (Try.prog.info? 4).map (fun i => (i.zero, i.size, i.bytes)) = some (some (.bool false), 1, 1) := by kernel_rfl

def ofN (xs : List Nat) : List Int := xs.map (fun x : Nat => (x : Int))

/-- Where Keep stands: the list's box, the marks, the places of the others. -/
structure Kp (w : World) (ao : Option Addr) (n cap : Nat) (wr : World) (S : Nat → Prop) (v : Value) (xs : List Int) : Prop where
  bel : Below w.heap.size w wr
  bx : wr.cell? ⟨w.heap.size, 0, none⟩ = some (.slice ao n cap)
  mrk : Marks wr (w.heap.size + 1) n S
  ow : OwnI wr (w.heap.size + 2) v xs

section
variable {w wr w' : World} {ao : Option Addr} {n cap : Nat} {D : Nat → Dd} {S S' : Nat → Prop} {v v' : Value} {xs xs' : List Int}

theorem Kp.size (h : Kp w ao n cap wr S v xs) : w.heap.size + 2 ≤ wr.heap.size := h.mrk.lt

theorem Kp.iff (h : Kp w ao n cap wr S v xs) (e : ∀ i, i < n → (S i ↔ S' i)) : Kp w ao n cap wr S' v xs := ⟨h.bel, h.bx, h.mrk.iff e, h.ow⟩

theorem Kp.alloc (h : Kp w ao n cap wr S v xs) (o : Obj) : Kp w ao n cap (wr.alloc o) S v xs := by
  have b : Below wr.heap.size wr (wr.alloc o) := (Below.refl _ _).alloc (Nat.le_refl _) o
  exact ⟨Below.next h.bel b, (b.cell (cell_lt h.bx)).trans h.bx, h.mrk.keep b, h.ow.alloc o⟩

theorem Kp.own (h : Kp w ao n cap wr S v xs) (b : Below (w.heap.size + 2) wr w') (o : OwnI w' (w.heap.size + 2) v' xs') : Kp w ao n cap w' S v' xs' := by
  have hs := h.size
  refine ⟨h.bel.trans (b.mono (by omega)), ?_, h.mrk.same (b.block _ (by omega)), o⟩
  rw [World.cell?_of_block (a := ⟨w.heap.size, 0, none⟩) (b.block w.heap.size (by omega))]
  exact h.bx

theorem Kp.set (h : Kp w ao n cap wr S v xs) (q : Nat) : Kp w ao n cap (wr.setCell ⟨w.heap.size + 1, q, none⟩ (.bool true)) (fun i => S i ∨ i = q) v xs := by
  have hs := h.size
  have g := grown_set wr ⟨w.heap.size + 1, q, none⟩ (.bool true)
  refine ⟨?_, ?_, h.mrk.set, own_keep h.ow.1 g (fun j e => ?_), h.ow.2⟩
  · refine ⟨h.bel.os, h.bel.tape, h.bel.output, Nat.le_trans h.bel.size g.size, fun k hk => ?_⟩
    rw [g.block k (by omega) (fun e => by have := Option.some.inj e; simp at this; omega)]
    exact h.bel.block k hk
  · rw [World.cell?_of_block (a := ⟨w.heap.size, 0, none⟩) (g.block w.heap.size (by omega) (fun e => by have := Option.some.inj e; simp at this))]
    exact h.bx
  · cases e
    intro c
    have := (own_lt h.ow.1 c).1
    simp at this
end

section
variable {w wr w' : World} {ao : Option Addr} {n cap k : Nat} {D : Nat → Dd} {S S' : Nat → Prop} {v v' : Value} {xs xs' : List Int}

theorem ofN_append (xs : List Nat) (y : Nat) : ofN (xs ++ [y]) = ofN xs ++ [(y : Int)] := by unfold ofN; simp

theorem row_behind (w : World) (o : Obj) (y : Int) (h0 : -9223372036854775808 ≤ y) (h1 : y ≤ 9223372036854775807) : Row ((w.alloc o).alloc (.cells #[.int .i64 y] 3)) (some ⟨w.heap.size + 1, 0, none⟩) 1 1 [y] := by
  have h := row_one (w.alloc o) y h0 h1
  have e : (w.alloc o).heap.size = w.heap.size + 1 := by show (w.heap.push _).size = _; rw [Array.size_push]
  rwa [e] at h

theorem two_more {B : Nat} (h : B ≤ w.heap.size) (o o' : Obj) : B ≤ ((w.alloc o).alloc o').heap.size ∧ Below B w ((w.alloc o).alloc o') := by
  have e : (w.alloc o).heap.size = w.heap.size + 1 := by show (w.heap.push _).size = _; rw [Array.size_push]
  have e2 : ((w.alloc o).alloc o').heap.size = (w.alloc o).heap.size + 1 := by show ((w.alloc o).heap.push _).size = _; rw [Array.size_push]
  exact ⟨by omega, ((Below.refl _ _).alloc h _).alloc (by omega) _⟩

/-- The state behind so many of the first loop's rounds. -/
def First (w : World) (ao : Option Addr) (n cap : Nat) (D : Nat → Dd) (k : Nat) (wr : World) (v : Value) : Prop := Kp w ao n cap wr (fun j => j < k ∧ sure (D j) = true) v (ofN (oth k D))

theorem First.start (h : Below w.heap.size w w') : First w ao n cap D 0 (((w.alloc (.cells #[.slice ao n cap] 22)).alloc (.cells (madeCells #[.bool false] n) 4))) (.slice none 0 0) := by
  have e : (w.alloc (.cells #[.slice ao n cap] 22)).heap.size = w.heap.size + 1 := by show (w.heap.push _).size = _; rw [Array.size_push]
  have m := Marks.made (w.alloc (.cells #[.slice ao n cap] 22)) n
  rw [e] at m
  have b1 : Below w.heap.size w (w.alloc (.cells #[.slice ao n cap] 22)) := (Below.refl _ _).alloc (Nat.le_refl _) _
  have b2 : Below (w.alloc (.cells #[.slice ao n cap] 22)).heap.size (w.alloc (.cells #[.slice ao n cap] 22)) ((w.alloc (.cells #[.slice ao n cap] 22)).alloc (.cells (madeCells #[.bool false] n) 4)) := (Below.refl _ _).alloc (Nat.le_refl _) _
  have c : (w.alloc (.cells #[.slice ao n cap] 22)).cell? ⟨w.heap.size, 0, none⟩ = some (.slice ao n cap) := (cell_of (new_same w _)).trans rfl
  exact ⟨Below.next b1 b2, (b2.cell (cell_lt c)).trans c, m.iff (fun i hi => ⟨False.elim, fun h => by omega⟩), OwnI.nil _ _⟩

theorem First.sure (h : First w ao n cap D k wr v) (hs : sure (D k) = true) (o : Obj) : First w ao n cap D (k + 1) ((wr.alloc o).setCell ⟨w.heap.size + 1, k, none⟩ (.bool true)) v := by
  unfold First
  rw [oth_sure hs]
  refine ((Kp.alloc h o).set k).iff fun i hi => ?_
  constructor
  · rintro (⟨h1, h2⟩ | rfl)
    · exact ⟨by omega, h2⟩
    · exact ⟨by omega, hs⟩
  · rintro ⟨h1, h2⟩
    by_cases e : i = k
    · exact .inr e
    · exact .inl ⟨by omega, h2⟩

theorem First.more (h : First w ao n cap D k wr v) (hs : Ytodhganfjeojoaa.sure (D k) = false) (b : Below (w.heap.size + 2) wr w') (own : OwnI w' (w.heap.size + 2) v' (ofN (oth k D) ++ [(k : Int)])) : First w ao n cap D (k + 1) w' v' := by
  unfold First
  rw [oth_more hs, ofN_append]
  refine (Kp.own h b own).iff fun i hi => ?_
  constructor
  · rintro ⟨h1, h2⟩; exact ⟨by omega, h2⟩
  · rintro ⟨h1, h2⟩
    refine ⟨?_, h2⟩
    by_cases e : i = k
    · rw [e, hs] at h2; simp at h2
    · omega

/-- The second loop: the places in their order, so many of them marked. -/
structure Sec (w : World) (n : Nat) (D : Nat → Dd) (g : Nat) (es : List Nat) (j : Nat) (wr : World) : Prop where
  bel : Below w.heap.size w wr
  mrk : Marks wr (w.heap.size + 1) n (fun i => sure (D i) = true ∨ i ∈ es.take j)
  cel : ∀ (j y : Nat), es[j]? = some y → wr.cell? ⟨g, j, none⟩ = some (.int .i64 (y : Int))
  ne : g ≠ w.heap.size + 1

theorem Sec.set {g j y : Nat} {es : List Nat} (h : Sec w n D g es j wr) (hy : es[j]? = some y) : Sec w n D g es (j + 1) (wr.setCell ⟨w.heap.size + 1, y, none⟩ (.bool true)) := by
  have hs : w.heap.size + 1 < wr.heap.size := h.mrk.lt
  have gr := grown_set wr ⟨w.heap.size + 1, y, none⟩ (.bool true)
  refine ⟨?_, h.mrk.set.iff fun i hi => ?_, fun q z hz => ?_, h.ne⟩
  · refine ⟨h.bel.os, h.bel.tape, h.bel.output, Nat.le_trans h.bel.size gr.size, fun k hk => ?_⟩
    rw [gr.block k (by omega) (fun e => by have := Option.some.inj e; simp at this; omega)]
    exact h.bel.block k hk
  · rw [List.take_add_one, hy]
    simp only [Option.toList_some, List.mem_append, List.mem_singleton]
    exact or_assoc
  · have hc := h.cel q z hz
    rw [World.cell?_of_block (a := ⟨g, q, none⟩) (gr.block g (cell_lt hc) (fun e => h.ne (Option.some.inj e)))]
    exact hc

theorem Sec.done {g : Nat} {es : List Nat} (h : Sec w n D g es (half n D) wr) (hp : es.Perm (oth n D)) (ho : es.Pairwise (fun x y => ahd D x y = true)) : Bls wr (w.heap.size + 1) n (keepF n D) :=
  h.mrk.bools fun i hi => (keep_take hp ho hi).symm

theorem First.none (h : First w ao n cap D n wr v) (e : oth n D = []) : Bls wr (w.heap.size + 1) n (keepF n D) := by
  refine h.mrk.bools fun i hi => ?_
  rw [keep_take (es := []) (by rw [e]) List.Pairwise.nil hi]
  simp [hi]

theorem own_none (h : OwnI wr k v []) : ∃ p c, v = .slice p 0 c := by
  rcases h.1.2 with ⟨h1, _⟩ | ⟨g, c, cur, h1, _⟩
  · exact ⟨_, _, h1⟩
  · exact ⟨_, _, h1⟩

theorem own_filled {os : List Nat} (h : OwnI wr k v (ofN os)) (h0 : os ≠ []) : ∃ g c cur, v = .slice (some ⟨g, 0, none⟩) os.length c ∧ k ≤ g ∧ wr.heap[g]? = some (.cells cur 3 (0, 0)) ∧ os.length ≤ c ∧ c ≤ maxLen ∧ ∀ (j y : Nat), os[j]? = some y → wr.cell? ⟨g, j, none⟩ = some (.int .i64 (y : Int)) := by
  have hl : (ofN os).length = os.length := by unfold ofN; rw [List.length_map]
  have hp : 0 < os.length := List.length_pos_iff.2 h0
  rcases h.1.2 with ⟨_, h2⟩ | ⟨g, cap, cur, rfl, h1, h2, h3, h4, h5, h6⟩
  · omega
  · refine ⟨g, cap, cur, by rw [hl], h1, h2, by omega, h4, fun j y hj => ?_⟩
    have hjl := (List.getElem?_eq_some_iff.1 hj).1
    rw [cell_of h2]
    have e : (cur.toList.take ((ofN os).length * 1))[j]? = some (.int .i64 (y : Int)) := by rw [h6, List.getElem?_map]; unfold ofN; rw [List.getElem?_map, hj]; rfl
    rw [List.getElem?_take_of_lt (by omega)] at e
    simpa using e

theorem Sec.start {g : Nat} {es : List Nat} (h : First w ao n cap D n wr v) (hg : w.heap.size + 2 ≤ g) (gr : wr.grownBy w' (some g)) (hc : ∀ (j y : Nat), es[j]? = some y → w'.cell? ⟨g, j, none⟩ = some (.int .i64 (y : Int))) : Sec w n D g es 0 w' := by
  have hs := h.size
  refine ⟨h.bel.trans (below_grown gr (fun j e => by cases e; omega) h.bel.size), ?_, hc, by omega⟩
  refine (h.mrk.same (gr.block _ (by omega) (fun e => by have := Option.some.inj e; omega))).iff fun i hi => ?_
  simp [hi]

set_option maxHeartbeats 4000000 in
theorem keep_is (h : Deeds w ao n D) (hn : n ≤ 100) :
    Calls Try.prog 9 #[.slice ao n cap] w fun e w' => ∃ g, e = .returned (.slice (some ⟨g, 0, none⟩) n n) ∧ Hid (Bls w' g n (keepF n D)) ∧ Hid (Below w.heap.size w w') := by
  have HD := hid h
  clear h
  have hmk := run_make_row' (P := Try.prog) 28 4 (.bool false) 1 Try.underlying28 Try.info4 rfl .i64 .i64 n (by omega) (by omega)
  go_enter Try.func9, Try.ntmps9
  go_wp2
  clear hmk
  go_loopw [4, 14] (fun v i wr => ∃ k : Nat, k ≤ n ∧ i = .int .i64 k ∧ Hid (First w ao n cap D k wr v)) (fun _ i _ => n - (intOf i).toNat)
  case atStart => exact ⟨0, Nat.zero_le _, rfl, hid (First.start (Below.refl _ _))⟩
  case round =>
    obtain ⟨k, hk, rfl, hF⟩ := hrel
    by_cases hlt : k < n
    · obtain ⟨b, off, rfl, c0, c1, c2⟩ := (HD.out.below hF.out.bel).at hlt
      obtain ⟨d, hd⟩ : ∃ d, D k = d := ⟨_, rfl⟩
      rw [hd] at c0 c1 c2
      obtain ⟨mb, hc, _, hfr⟩ := (Kp.alloc hF.out (.cells #[.int .i64 d.s, .int .i64 d.g, .int .i64 d.a] 26)).mrk.at hlt
      have hln : (ofN (oth k D)).length ≤ 100 := by unfold ofN; rw [List.length_map]; have := oth_len (n := k) (D := D); omega
      have hsz := hF.out.size
      by_cases hg : d.g ≤ 2
      · have HS : Hid (sure (D k) = true) := by show sure (D k) = true; rw [hd]; unfold sure; rw [decide_eq_true_eq]; exact .inl hg
        go_wp2
        go_roundw
        case rel => exact ⟨k + 1, by omega, by go_num, hid (First.sure hF.out HS.out _)⟩
        case measure => simp [intOf]; omega
      · have hg' : decide (d.g ≤ 2) = false := by simpa using hg
        by_cases hs : d.s ≤ 2
        · have HS : Hid (sure (D k) = true) := by show sure (D k) = true; rw [hd]; unfold sure; rw [decide_eq_true_eq]; exact .inr hs
          go_wp2
          go_roundw
          case rel => exact ⟨k + 1, by omega, by go_num, hid (First.sure hF.out HS.out _)⟩
          case measure => simp [intOf]; omega
        · have HS : Hid (sure (D k) = false) := by show sure (D k) = false; rw [hd]; unfold sure; rw [decide_eq_false_iff_not]; omega
          go_wp2_with (at_builtin; refine append_ints rfl (.tmp 30) (.tmp 32) rfl (w.heap.size + 2) _ _ [(k : Int)] rfl ((hF.out.ow.alloc _).alloc _) _ 1 1 rfl (row_behind _ _ _ (by omega) (by omega)) (by omega) (two_more hsz _ _).1 ?_; intro v2 w2 own2 hb3)
          go_roundw
          case rel => exact ⟨k + 1, by omega, by go_num, hid (First.more hF.out HS.out ((two_more hsz _ _).2.trans hb3.out) own2.out)⟩
          case measure => simp [intOf]; omega
    · obtain rfl : k = n := by omega
      cases ho : oth k D with
      | nil =>
        have HE := hid ho
        have own := hF.out.ow
        rw [ho] at own
        obtain ⟨p, c, rfl⟩ := own_none own
        clear own ho
        go_wp2_with (go_at_call 12; with_reducible (refine (Try.slices_SortFunc_none (α := Nat) _ _ _ _).mono ?_); rintro e w9 ⟨rfl, rfl⟩)
        refine wp_loop_rounds 1 ?_
        rw [rounds_succ]
        go_wp2
        go_ret
        exact ⟨_, rfl, hid (hF.out.none HE.out), hid hF.out.bel⟩
      | cons x xs =>
        have hne : oth k D ≠ [] := by rw [ho]; simp
        clear ho
        obtain ⟨m, rfl⟩ : ∃ m, k = m + 1 := by
          cases k with
          | zero => exact absurd rfl hne
          | succ m => exact ⟨m, rfl⟩
        obtain ⟨g, c, cur, hv, hg, hcur, hLc, hcm, hcells⟩ := own_filled hF.out.ow hne
        obtain ⟨os, hos⟩ : ∃ os, oth (m + 1) D = os := ⟨_, rfl⟩
        obtain ⟨L, hL⟩ : ∃ L, os.length = L := ⟨_, rfl⟩
        obtain ⟨H, hH⟩ : ∃ H, (L + 1) / 2 = H := ⟨_, rfl⟩
        have HH : Hid (half (m + 1) D = H) := hid (by unfold half; rw [hos, hL, hH])
        have hLn : L ≤ 100 := by have := oth_len (n := m + 1) (D := D); rw [hos, hL] at this; omega
        rw [hos] at hLc hcells hv
        rw [hL] at hv hLc
        subst hv
        have hao : ∀ ad, ao = some ad → ad.block ≠ g := fun ad e => by
          obtain ⟨b, off, e', c0, _⟩ := HD.out.at (show 0 < m + 1 by omega)
          rw [e] at e'
          have := cell_lt c0
          have e2 := Option.some.inj e'
          rw [e2]
          show b ≠ g
          simp at this
          omega
        have key := sortFunc_is (c := c) (HD.out.below hF.out.bel) hF.out.bx hn (by omega) hao hcur os hcells (fun y hy => (oth_mem.1 (by rw [hos]; exact hy)).1) (by rw [← hos]; exact oth_nodup) (by omega)
        rw [hL] at key
        have KEY := hid key
        have HO := hid hos
        have HL := hid hL
        have hq : ((L : Int) + 1).tdiv 2 = (H : Int) := by rw [Int.tdiv_eq_ediv_of_nonneg (by omega)]; omega
        have hHc : H ≤ c := by omega
        have hHL : H ≤ L := by omega
        clear key hos hL hcells hcur hao hne
        go_wp2_with (go_at_call 12; with_reducible (refine KEY.out.mono ?_); rintro e w2 ⟨rfl, es, hes, hgr, hcl⟩)
        have HS := hid (Sec.start hF.out hg hgr.out hcl.out)
        have HP : Hid (∀ j, j < H → ∃ y, es[j]? = some y ∧ y < m + 1) := hid (fun j hj => by
          have hl : es.length = L := by rw [hes.out.1.length_eq]; exact HL.out
          have hjl : j < es.length := by omega
          refine ⟨es[j], List.getElem?_eq_getElem hjl, ?_⟩
          have hm : es[j] ∈ oth (m + 1) D := by rw [HO.out]; exact hes.out.1.mem_iff.1 (List.getElem_mem hjl)
          exact (oth_mem.1 hm).1)
        clear hq KEY hcl hgr HL hH
        go_loopw [45] (fun i wt => ∃ j : Nat, j ≤ H ∧ i = .int .i64 j ∧ Hid (Sec w (m + 1) D g es j wt)) (fun i _ => H - (intOf i).toNat)
        case atStart => exact ⟨0, Nat.zero_le _, rfl, HS⟩
        case round =>
          obtain ⟨j, hj, rfl, hT⟩ := hrel
          by_cases hjl : j < H
          · obtain ⟨y, hy, hyl⟩ := HP.out j hjl
            have hcy := hT.out.cel j y hy
            obtain ⟨mb, hc, _, hfr⟩ := hT.out.mrk.at hyl
            have HY := hid hy
            clear hy
            go_wp2
            go_roundw
            case rel => exact ⟨j + 1, by omega, by go_num, hid (hT.out.set HY.out)⟩
            case measure => simp [intOf]; omega
          · obtain rfl : j = H := by omega
            have hT2 := hT.out
            rw [← HH.out] at hT2
            have HB := hid (hT2.done (by rw [HO.out]; exact hes.out.1) hes.out.2)
            clear hT2
            go_wp2
            go_ret
            exact ⟨_, rfl, HB, hid hT.out.bel⟩
end

end Go.Proofs.Ytodhganfjeojoaa
