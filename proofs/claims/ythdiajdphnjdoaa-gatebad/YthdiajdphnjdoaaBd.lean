/-
  The walk of GateBad.
-/
import Derived.Test.YthdiajdphnjdoaaFrame
import Derived.Test.YthdiajdphnjdoaaAp
namespace Go.Proofs.Ythdiajdphnjdoaa
open Go.RowKit
set_option linter.unusedVariables false

theorem and1023 (a : Int) : 0 ≤ bits .and .i64 a 1023 ∧ bits .and .i64 a 1023 ≤ 1023 := by
  have h : bits .and .i64 a 1023 = IntKind.i64.wrap (((BitVec.ofInt 64 a) &&& (BitVec.ofInt 64 1023)).toNat : Int) := rfl
  rw [h, BitVec.toNat_and]
  have e : (BitVec.ofInt 64 1023).toNat = 1023 := by decide
  rw [e]
  have := Nat.and_le_right (n := (BitVec.ofInt 64 a).toNat) (m := 1023)
  rw [IntWalk.i64_in _ (by omega)]
  omega

def tOf (v : Value) : Nat → Prop := fun b => v.ownBlock = some b

theorem Own.typ {w : World} {C : Nat} {v : Value} {xs : List Int} (h : Own w C v xs) {j : Nat} (hj : v.ownBlock = some j) : Typ w j 3 := by
  rcases h.1.2 with ⟨rfl, hn⟩ | ⟨g, cap, cur, rfl, hb, hg, _⟩
  · simp [Value.ownBlock] at hj
  · simp [Value.ownBlock] at hj; subst hj; exact typ_of hg

/-- Gates, and a list of literals that they told. -/
def LB (wB : World) (gb : Nat) (wr : World) (v : Value) (ts : List Int) (N : Nat) : Prop :=
  ∃ n cs val is, Good n cs val is ∧ Gt ⟨wB.heap.size, tOf v⟩ gb wr n cs ∧ n ≤ N ∧ (∀ x ∈ ts, rng n x) ∧ Own wr wB.heap.size v ts ∧ Below wB.heap.size wB wr

theorem LB.push {wB : World} {gb : Nat} {w2 w' : World} {v v' : Value} {ts : List Int} {N n : Nat} {cs : List (List Int)} {val : Nat → Bool} {is : List Int} {y : Int}
    (g : Good n cs val is) (h : Gt ⟨wB.heap.size, tOf v⟩ gb w2 n cs) (hn : n ≤ N) (ht : ∀ x ∈ ts, rng n x) (hy : rng n y) (o : Own w2 wB.heap.size v ts) (b : Below wB.heap.size wB w2) (hN : N ≤ 10000)
    (own : w'.ownsRow wB.heap.size 3 1 v' (ts.length + 1) (ts.map (Value.int .i64) ++ [.int .i64 y])) (gr : w2.grownBy w' v.ownBlock) (ls : Lies w2 v v') : LB wB gb w' v' (ts ++ [y]) N := by
  refine ⟨n, cs, val, is, g, ?_, hn, fun x hx => ?_, ⟨?_, fit_append o.2 (fun x hx => by rw [List.mem_singleton] at hx; subst hx; exact rng_fit hy (by omega))⟩, b.grown gr b.size (fun j hj => (o.1.lt j hj).1)⟩
  · refine h.hop rfl gr (fun j T hj hT => ⟨.inl hj, ?_⟩) (fun j hj => ⟨(own.lt j hj).2, ls j hj⟩)
    obtain ⟨c1, f1, e1⟩ := o.typ hj
    obtain ⟨c2, f2, e2⟩ := hT
    rw [e1] at e2; cases e2
    exact ⟨by decide, by decide⟩
  · rcases List.mem_append.1 hx with hx | hx
    · exact ht x hx
    · rw [List.mem_singleton] at hx; subst hx; exact hy
  · rw [List.length_append, List.map_append]; exact own

theorem app_be {wB w5 w6 : World} {v : Value} {ts : List Int} (o : Own w5 wB.heap.size v ts) (b : Below wB.heap.size wB w5) (g : w5.grownBy w6 v.ownBlock) : Below wB.heap.size wB w6 := b.grown g b.size (fun j hj => (o.1.lt j hj).1)
theorem new_a (w : World) (o : Obj) : Below w.heap.size w (w.alloc o) := (Below.refl _ _).alloc (Nat.le_refl _) o

theorem clauses_k {B : BT} {gb n : Nat} {cs : List (List Int)} {val : Nat → Bool} {is : List Int} (w : World) (h : Gt B gb w n cs) (g : Good n cs val is) (hn : n ≤ 10000) (k : Nat) (hk : k = cs.length) :
    Calls Try.prog 16 #[.pointer (some ⟨gb, 0, none⟩)] w fun e w' => ∃ ao, e = .returned (.slice ao k k) ∧ w' = w := by
  refine (clauses_any w h g.ne (by have := g.len; omega)).mono ?_
  rintro e w' ⟨ao, k2, rfl, hk2, _, rfl⟩
  exact ⟨ao, by rw [hk2, hk], rfl⟩

set_option maxRecDepth 20000 in
set_option maxHeartbeats 8000000 in
theorem bad_walk (a0 : Option Addr) (len0 cap0 : Nat) (D0 : Nat → Dd) (D1 : Dd) (bad : Int) (w : World) (w0 : Deeds w a0 len0 D0) (w1 : DdFt D1) (w2 : (Lit.int .i64 bad).wf = true) :
    Calls Try.prog 4 #[.slice a0 len0 cap0, .agg #[.int .i64 D1.kd, .int .i64 D1.a, .int .i64 D1.b, .int .i64 D1.c], .int .i64 bad] w fun e w' => e = .returned (.bool true) ∧ Below w.heap.size w w' := by
  obtain ⟨kd, da, db, dc⟩ := D1
  have fb := hid (wf_out w2)
  have bb := hid ((Below.refl w.heap.size w).alloc (Nat.le_refl _) (.cells #[.int .i64 kd, .int .i64 da, .int .i64 db, .int .i64 dc] 30))
  clear w1 w2
  by_cases hl : 40 < len0
  · have hl' : (40 : Int) < len0 := by omega
    clear w0
    go_enter Try.func4, Try.ntmps4
    go_wp2_with (go_at_call 6; with_reducible (refine (awake_any _).mono ?_); rintro e w4 ⟨rfl, hb⟩; have bb := hid (Below.next bb.out hb.out))
    go_ret
    exact ⟨rfl, bb.out⟩
  · have hl' : ¬ (40 : Int) < len0 := by omega
    have HL := hid hl
    have HD := hid w0
    have BX : Hid ((w.alloc (.cells #[.int .i64 kd, .int .i64 da, .int .i64 db, .int .i64 dc] 30)).heap[w.heap.size]? = some (.cells #[.int .i64 kd, .int .i64 da, .int .i64 db, .int .i64 dc] 30 (0, 0))) := hid (new_same _ _)
    clear w0 hl
    go_enter Try.func4, Try.ntmps4
    go_upto_region 3 with fail
    generalize (w.alloc (.cells #[.int .i64 kd, .int .i64 da, .int .i64 db, .int .i64 dc] 30)) = wB at bb BX ⊢
    go_wp2_with (go_at_call 7; with_reducible (refine (new_any _).mono ?_); rintro e w3 ⟨gb, rfl, G, F⟩)
    have HS : Hid (LB wB gb w3 (.slice none 0 0) [] (1 + 0)) := hid ⟨1, [[0]], _, [], Good.start, (G.out.hop (B' := ⟨wB.heap.size, tOf (.slice none 0 0)⟩) rfl (World.grownBy.refl _ none) (fun j T hj => by cases hj) (fun j hj => by simp [tOf, Value.ownBlock] at hj)), by omega, fun x hx => by simp at hx, Own.nil _ _, F.out.be rfl (Below.refl _ _)⟩
    clear G F
    have h40 := hid (show len0 ≤ 40 by have := HL.out; omega)
    go_wp2
    go_loopw [8, 9] (fun t i wr => ∃ q : Nat, q ≤ len0 ∧ i = .int .i64 q ∧ ∃ ts : List Int, Hid (ts.length ≤ q) ∧ Hid (LB wB gb wr t ts (1 + q))) (fun _ i _ => len0 - (intOf i).toNat)
    case atStart => exact ⟨0, Nat.zero_le _, rfl, [], hid (by simp), HS⟩
    case round =>
      clear HS
      obtain ⟨q, hq, rfl, ts, htl, hlb⟩ := hrel
      obtain ⟨n, cs, val, is, g, G, hnN, hts, hown, hbe⟩ := hlb.out
      obtain ⟨ta, tn, tc, rfl, hrow⟩ := hown.shape
      have HGd := hid g
      have GG := hid G
      have HN := hid hnN
      have HTS := hid hts
      have OW := hid hown
      have BE := hid hbe
      have hn := hid (show n ≤ 10000 by have := h40.out; omega)
      have htn := hrow.out.1
      have htm := hrow.out.max
      have HTL : Hid (ts.length ≤ 100) := hid (by have := htl.out; have := h40.out; omega)
      have HTN := hid htn
      clear g G hnN hts hown hbe htn htm
      by_cases hlt : q < len0
      · have hlt' : (q : Int) < len0 := by omega
        have q0 : (0 : Int) ≤ q := by omega
        obtain ⟨b, off, rfl, fd, c0, c1, c2, c3⟩ := HD.out.at (Below.next bb.out BE.out) hlt
        by_cases hinp : tn < 2 ∨ (D0 q).kd = 0
        · have hi2 : decide ((tn : Int) < 2) = true ∨ (decide ((tn : Int) < 2) = false ∧ ((D0 q).kd == 0) = true) := by
            by_cases h2 : tn < 2
            · exact .inl (by simp; omega)
            · exact .inr ⟨by simp; omega, by simpa using hinp.resolve_left h2⟩
          obtain ⟨y, hy⟩ : ∃ y, y = 2 * (n : Int) := ⟨_, rfl⟩
          have HY := hid hy
          clear hinp hy c1 c2 c3 fd
          rcases hi2 with h2 | ⟨h2, h3⟩
          all_goals go_wp2_with (first
            | (go_at_call 10; with_reducible (refine (input_gt _ GG.out hn.out y HY.out).mono ?_); rintro e w5 ⟨rfl, G5, F5⟩; have O5 := hid (OW.out.fg F5.out); have B5 := hid (F5.out.be rfl BE.out))
            | (at_builtin; refine wpList_app rfl _ _ 27 3 rfl Try.underlying27 (.int .i64 0) 1 8 rfl (by decide) Try.info3 (by decide) [.int .i64 y] rfl rfl (ints_one [y]) wB.heap.size ts.length _ _ rfl O5.out.1 rfl (Nat.le_trans HTL.out (by decide)) B5.out.size ?_; intro v6 w6 own6 g6 l6))
          all_goals have HB := hid (LB.push (N := 1 + (q + 1)) (HGd.out.input true) G5.out (by have := HN.out; omega) (fun x hx => rng_more (HTS.out x hx) (by omega)) (by rw [HY.out]; exact y_rng n) O5.out B5.out (by have := h40.out; omega) own6.out g6.out l6.out)
          all_goals clear own6 g6 l6 G5 F5 O5 B5
          all_goals go_roundw
          all_goals first
            | (simp only [intOf]; omega)
            | exact ⟨q + 1, by omega, by go_num, _, hid (by simp; exact htl.out), HB⟩
        · have h2 : decide ((tn : Int) < 2) = false := by simp; omega
          have h3 : ((D0 q).kd == 0) = false := by simp; omega
          have tne : Hid (¬ ts.length = 0) := hid (by have := HTN.out; omega)
          obtain ⟨xa, hxa⟩ : ∃ x, x = bits .and .i64 (D0 q).a 1023 := ⟨_, rfl⟩
          obtain ⟨xb, hxb⟩ : ∃ x, x = bits .and .i64 (D0 q).b 1023 := ⟨_, rfl⟩
          have ra := and1023 (D0 q).a
          have rb := and1023 (D0 q).b
          rw [← hxa] at ra
          rw [← hxb] at rb
          have RA : Hid (rng n (litF ts xa)) := hid ((litF_at HTS.out).resolve_right (fun h => by have := tne.out; omega))
          have RB : Hid (rng n (litF ts xb)) := hid ((litF_at HTS.out).resolve_right (fun h => by have := tne.out; omega))
          have ea := hxa.symm
          have eb := hxb.symm
          have FA : Hid (-9223372036854775808 ≤ xa ∧ xa ≤ 9223372036854775807) := hid (by omega)
          have FB : Hid (-9223372036854775808 ≤ xb ∧ xb ≤ 9223372036854775807) := hid (by omega)
          have SS : Hid (∀ W, Below w.heap.size w W → W.cell? ⟨b, off + q * 4 + 1, none⟩ = some (.int .i64 (D0 q).a) ∧ W.cell? ⟨b, off + q * 4 + 2, none⟩ = some (.int .i64 (D0 q).b)) := hid (fun W be => by
            obtain ⟨b', off', e, _, _, e1, e2, _⟩ := HD.out.at be hlt
            simp only [Option.some.injEq, Addr.mk.injEq, and_true] at e
            obtain ⟨rfl, rfl⟩ := e
            exact ⟨e1, e2⟩)
          have SB := hid (Below.next bb.out BE.out)
          clear hinp hxa hxb ra rb fd c1 c2 c3
          go_wp2
          go_region_held3 (fun W => W.cell? ⟨b, off + q * 4 + 1, none⟩ = some (.int .i64 (D0 q).a) ∧ W.cell? ⟨b, off + q * 4 + 2, none⟩ = some (.int .i64 (D0 q).b)) (first | exact SS.out _ (SB.out.drew) | exact SS.out _ (S5.out) | exact SS.out _ (Below.next S5.out (new_a _ _)) | exact SS.out _ S6.out) (first
            | (go_at_call 8; with_reducible (refine (lit_any _ _ _ _ ts (hrow.out.keep (below_drew _)) xa FA.out.1 FA.out.2).mono ?_); rintro e wl ⟨rfl, rfl⟩)
            | (go_at_call 8; with_reducible (refine (lit_any _ _ _ _ ts (hrow.out.keep (below_drew _)) xb FB.out.1 FB.out.2).mono ?_); rintro e wl ⟨rfl, rfl⟩)
            | (go_at_call 14; with_reducible (refine (xor_any _ HGd.out (GG.out.below (below_drew _)) hn.out _ _ RA.out RB.out).mono ?_); rintro e w5 ⟨y, rfl, hend⟩; obtain ⟨n5, cs5, v5, lo5, hi5, g5, ag5, G5, RY, HY, F5⟩ := hend.out.get; have F5 := hid ((FG.below (below_drew _)).trans F5.out); have O5 := hid (OW.out.fg F5.out); have B5 := hid (F5.out.be rfl BE.out); have S5 := hid (Below.next bb.out B5.out))
            | (refine step_app rfl _ _ 27 3 rfl Try.underlying27 (.int .i64 0) 1 8 rfl (by decide) Try.info3 (by decide) [.int .i64 y] rfl rfl (ints_one [y]) wB.heap.size ts.length _ _ rfl O5.out.1 rfl (Nat.le_trans HTL.out (by decide)) B5.out.size ?_; intro v6 w6 own6 g6 l6; have S6 := hid (Below.next bb.out (app_be O5.out B5.out g6.out))))
          have HB := hid (LB.push (N := 1 + (q + 1)) g5.out G5.out (by have := HN.out; omega) (fun x hx => rng_more (HTS.out x hx) lo5) RY.out O5.out B5.out (by have := h40.out; omega) own6.out g6.out l6.out)
          clear own6 g6 l6 G5 F5 O5 B5
          go_wp2
          go_roundw
          case rel => exact ⟨q + 1, by omega, by go_num, _, hid (by simp; exact htl.out), HB⟩
          case measure => simp only [intOf]; omega
      · obtain ⟨k, hk⟩ : ∃ k : Nat, k = cs.length := ⟨_, rfl⟩
        have HK := hid hk
        have c0 : Hid (∀ W, Below wB.heap.size wB W → W.cell? ⟨w.heap.size, 0, none⟩ = some (.int .i64 kd)) := hid (fun W b => (World.cell?_of_block (w := wB) (b.block _ (blk_lt BX.out))).trans (by rw [cell_of BX.out]; rfl))
        clear hk
        have hnb := hn.out
        by_cases hin : 0 ≤ bad ∧ bad < 2 * (n : Int)
        · have i1 : (0 : Int) ≤ bad := hin.1
          have i2 : bad < 2 * (n : Int) := hin.2
          clear hin
          go_wp2_with (first
            | (go_at_call 15; with_reducible (refine (vars_gt _ GG.out).mono ?_); rintro e w5 ⟨rfl, rfl⟩)
            | (go_at_call 16; with_reducible (refine (clauses_k _ GG.out HGd.out hn.out k HK.out).mono ?_); rintro e w5 ⟨ao, rfl, rfl⟩)
            | (go_at_call 6; with_reducible (refine (awake_any _).mono ?_); rintro e w6 ⟨rfl, hb⟩; have BE := hid (Below.next BE.out hb.out)))
          go_ret
          exact ⟨rfl, Below.next bb.out BE.out⟩
        · have hnr : ¬ rng n bad := fun h => hin ⟨h.1, h.2⟩
          have H1 := hid (have_no (n := n) (xs := [bad, 0]) (x := bad) (by simp) hnr)
          have H2 := hid (have_no (n := n) (xs := [0, bad]) (x := bad) (by simp) hnr)
          have H3 := hid (have_no (n := n) (xs := [notF bad, notF 0]) (x := notF bad) (by simp) (nrng_not hnr))
          have H4 := hid (have_no (n := n) (xs := [0, notF bad, bad]) (x := bad) (by simp) hnr)
          have H5 := hid (have_no (n := n) (xs := [bad, 0, 0]) (x := bad) (by simp) hnr)
          have H6 := hid (have_no (n := n) (xs := [0, 0, bad]) (x := bad) (by simp) hnr)
          have H7 := hid (have_no (n := n) (xs := [0, bad, 0]) (x := bad) (by simp) hnr)
          have NR := hid hnr
          have F0 : Hid ((-9223372036854775808 : Int) ≤ 0 ∧ (0 : Int) ≤ 9223372036854775807) := hid (by omega)
          have hout : (¬ (0 : Int) ≤ bad) ∨ ((0 : Int) ≤ bad ∧ ¬ bad < 2 * (n : Int)) := by omega
          clear hin hnr
          rcases hout with o1 | ⟨o1, o2⟩
          all_goals go_upto_region 17 with (first
            | (go_at_call 15; with_reducible (refine (vars_gt _ GG.out).mono ?_); rintro e w5 ⟨rfl, rfl⟩)
            | (go_at_call 16; with_reducible (refine (clauses_k _ GG.out HGd.out hn.out k HK.out).mono ?_); rintro e w5 ⟨ao, rfl, rfl⟩)
            | (go_at_call 9; with_reducible (refine (true_any gb _).mono ?_); rintro e w5 ⟨rfl, rfl⟩))
          all_goals go_wp2_with (first
            | (go_at_call 17; with_reducible (refine (and_bad _ _ n GG.out.vq hn.out bad 0 fb.out F0.out H1.out).mono ?_); rintro e w6 ⟨rfl, hb⟩; have GG := hid (GG.out.below hb.out); have BE := hid (Below.next BE.out hb.out))
            | (go_at_call 17; with_reducible (refine (and_bad _ _ n GG.out.vq hn.out 0 bad F0.out fb.out H2.out).mono ?_); rintro e w6 ⟨rfl, hb⟩; have GG := hid (GG.out.below hb.out); have BE := hid (Below.next BE.out hb.out))
            | (go_at_call 18; with_reducible (refine (or_bad _ _ n GG.out.vq hn.out bad 0 fb.out F0.out H3.out).mono ?_); rintro e w6 ⟨rfl, hb⟩; have GG := hid (GG.out.below hb.out); have BE := hid (Below.next BE.out hb.out))
            | (go_at_call 14; with_reducible (refine (xor_bad _ _ n GG.out.vq hn.out 0 bad F0.out fb.out H4.out).mono ?_); rintro e w6 ⟨rfl, hb⟩; have GG := hid (GG.out.below hb.out); have BE := hid (Below.next BE.out hb.out))
            | (go_at_call 19; with_reducible (refine (ite_bad _ _ n GG.out.vq hn.out bad 0 0 fb.out F0.out F0.out H5.out).mono ?_); rintro e w6 ⟨rfl, hb⟩; have GG := hid (GG.out.below hb.out); have BE := hid (Below.next BE.out hb.out))
            | (go_at_call 19; with_reducible (refine (ite_bad _ _ n GG.out.vq hn.out 0 0 bad F0.out F0.out fb.out H6.out).mono ?_); rintro e w6 ⟨rfl, hb⟩; have GG := hid (GG.out.below hb.out); have BE := hid (Below.next BE.out hb.out))
            | (go_at_call 20; with_reducible (refine (maj_bad _ _ n GG.out.vq hn.out 0 bad 0 F0.out fb.out F0.out H7.out).mono ?_); rintro e w6 ⟨rfl, hb⟩; have GG := hid (GG.out.below hb.out); have BE := hid (Below.next BE.out hb.out); have d0 := c0.out _ BE.out)
            | (go_at_call 11; with_reducible (refine (ask_bad _ _ n GG.out.vq hn.out kd bad bad bad fb.out fb.out fb.out NR.out).mono ?_); rintro e w6 ⟨rfl, hb⟩; have GG := hid (GG.out.below hb.out); have BE := hid (Below.next BE.out hb.out))
            | (go_at_call 15; with_reducible (refine (vars_gt _ GG.out).mono ?_); rintro e w5 ⟨rfl, rfl⟩)
            | (go_at_call 16; with_reducible (refine (clauses_k _ GG.out HGd.out hn.out k HK.out).mono ?_); rintro e w5 ⟨ao, rfl, rfl⟩)
            | (go_at_call 6; with_reducible (refine (awake_any _).mono ?_); rintro e w6 ⟨rfl, hb⟩; have BE := hid (Below.next BE.out hb.out)))
          all_goals go_ret
          all_goals exact ⟨rfl, Below.next bb.out BE.out⟩

end Go.Proofs.Ythdiajdphnjdoaa
