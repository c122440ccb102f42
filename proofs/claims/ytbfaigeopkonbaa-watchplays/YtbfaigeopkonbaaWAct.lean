/-
  act: a deed.
-/
import Derived.Test.YtbfaigeopkonbaaWActp
import Derived.Test.YtbfaigeopkonbaaWRunL
import Derived.Deep.RegionWith
namespace Go.Proofs.Ytbfaigeopkonbaa
open Go.RowKit Go.Maps
set_option linter.unusedVariables false

def ActEnd (k : K) (kw : WK) (w0 : World) (g : G) (p : V) (H : List Int) (xss : List (List Int)) (ths : List Bool) (kd : Int) (w : World) (e : Ending) (w' : World) : Prop :=
  ∃ g' L' lev' p' la' ta' xss' ths' b, e = .returned (.tuple #[.agg #[.int .i64 kw.n, la', ta'], .bool b]) ∧ ActE k kw w0 g p H xss ths kd w g' L' lev' p' la' ta' xss' ths' b w'

/-- What a deed is done with. -/
structure ActI (k : K) (kw : WK) (w0 : World) (g : G) (L : List E) (lev : Nat) (p : V) (H : List Int) (la ta : Value) (xss : List (List Int)) (ths : List Bool) (a1 : Option Addr) (m1 c1 : Nat) (xs : List Int) (w : World) : Prop where
  W : Wa k kw w g L lev p H
  r : RW w0 w la ta xss ths
  b0 : Below w0.heap.size w0 w
  hB : kw.B = w0.heap.size
  row : U.Row w0 a1 m1 c1 xs
  hm : m1 ≤ 12
  nx : g.nx ≤ 1000
  rm : g.rm ≤ 1000
  xl : xss.length ≤ 1000
  tt : tot kw.n g ≤ 1000000

section
variable {k : K} {kw : WK} {w w0 : World} {g : G} {L : List E} {lev : Nat} {p : V} {H : List Int} {la ta : Value} {xss : List (List Int)} {ths : List Bool} {a1 : Option Addr} {m1 c1 : Nat} {xs : List Int}

theorem ActI.pl (I : ActI k kw w0 g L lev p H la ta xss ths a1 m1 c1 xs w) : (g.P (3 * kw.n)).length ≤ 10000000 := by
  have h := I.tt; unfold tot at h; omega

theorem FW.box {B : Nat} {w w' : World} (f : FW B w w') {r : Nat} {c : Array Value} {T : TypeId} {fz : Nat × Nat} (h : w.heap[r]? = some (.cells c T fz)) (hT : T = 32 ∨ T = 38) : w'.heap[r]? = some (.cells c T fz) := by
  rw [f.block r T ⟨_, _, h⟩ (by rcases hT with rfl | rfl <;> simp [Wt])]; exact h

set_option maxRecDepth 20000 in
set_option maxHeartbeats 4000000 in
theorem act0_no (I : ActI k kw w0 g L lev p H la ta xss ths a1 m1 c1 xs w) (v : Int) (hx : ¬ ∀ x ∈ xs, 0 ≤ x ∧ x < 2 * (kw.n : Int)) :
    Calls Try.prog 11 #[.pointer (some ⟨k.OB, 0, none⟩), .pointer (some ⟨kw.OB, 0, none⟩), .agg #[.int .i64 kw.n, la, ta], .agg #[.int .i64 0, .int .i64 v, .slice a1 m1 c1]] w fun e w' => ActEnd k kw w0 g p H xss ths 0 w e w' := by
  obtain ⟨a, c, a', c', rfl, rfl, h1, h2, h3, h4⟩ := I.r.shape
  have hN := I.W.j.s.l.hn
  have hm := I.hm
  have hB1 : Hid (Below w.heap.size w (((w.alloc (.cells #[.int .i64 kw.n, .slice a xss.length c, .slice a' xss.length c'] 32)).alloc (.cells #[.int .i64 0, .int .i64 v, .slice a1 m1 c1] 38)).alloc (.cells #[.int .i64 0, .slice none 0 0, .slice none 0 0] 32))) := hid (by go_grown)
  have HK := hid (three_boxes (Below.refl _ (((w.alloc (.cells #[.int .i64 kw.n, .slice a xss.length c, .slice a' xss.length c'] 32)).alloc (.cells #[.int .i64 0, .int .i64 v, .slice a1 m1 c1] 38)).alloc (.cells #[.int .i64 0, .slice none 0 0, .slice none 0 0] 32))))
  have HI := hid I
  clear I
  go_enter Try.func11, Try.ntmps11
  go_upto_region 1 with fail
  revert hB1 HK
  generalize (((w.alloc (.cells #[.int .i64 kw.n, .slice a xss.length c, .slice a' xss.length c'] 32)).alloc (.cells #[.int .i64 0, .int .i64 v, .slice a1 m1 c1] 38)).alloc (.cells #[.int .i64 0, .slice none 0 0, .slice none 0 0] 32)) = W1
  intro hB1 HK
  have HW := hid (HI.out.W.below hB1.out)
  have HR := hid (HI.out.r.below hB1.out)
  have HB0 := hid (Below.trans HI.out.b0 (hB1.out.mono HI.out.b0.size))
  have HF := hid (FT.below (k := k) (B := kw.B) (p := p) hB1.out)
  obtain ⟨k1, k2, k3, -⟩ := HK.out
  have j1 := wbox_cells k1
  obtain ⟨⟨d0, d1, d2⟩, d3, d4, d5⟩ := j1
  have j2 := wbox_cells k2
  obtain ⟨⟨e0, e1, e2⟩, e3, e4, e5⟩ := j2
  have K1 := hid k1
  have K2 := hid k2
  have K3 := hid k3
  clear k1 k2 k3 HK
  have HX := hid hx
  clear hx
  go_upto_region 4 with (go_at_call 26; with_reducible (refine (radd_no HR.out HB0.out HI.out.row hm hN HX.out).mono ?_); rintro e w3 ⟨rfl, b3⟩)
  have Q1 := wbox_keep K2.out b3.out
  have Q2 := wbox_keep K3.out b3.out
  have B4 : Hid (Below W1.heap.size W1 (w3.alloc (.cells #[.int .i64 kw.n, .slice a xss.length c, .slice a' xss.length c'] 32))) := hid (Below.next b3.out (by go_grown))
  have N4 : Hid ((w3.alloc (.cells #[.int .i64 kw.n, .slice a xss.length c, .slice a' xss.length c'] 32)).heap[w3.heap.size]? = some (.cells #[.int .i64 kw.n, .slice a xss.length c, .slice a' xss.length c'] 32 (0, 0))) := hid (new_same w3 _)
  revert B4 N4
  generalize (w3.alloc (.cells #[.int .i64 kw.n, .slice a xss.length c, .slice a' xss.length c'] 32)) = w4
  intro B4 N4
  clear d0 d1 d2 d3 d4 d5 e3 e4 e5 Q1 Q2
  have q2 := cell_be e2 B4.out
  have n4 := wbox_cells N4.out
  obtain ⟨⟨n0, n1, n2⟩, -⟩ := n4
  have W4 := hid (HW.out.below B4.out)
  have R4 := hid (HR.out.below B4.out)
  have X3 := hid (wbox_keep K3.out B4.out)
  go_wp2_with (go_at_call 17; with_reducible (refine (add_bad W4.out.j.s _ (HI.out.row.keep (Below.trans HB0.out (B4.out.mono HB0.out.size))) (by omega) HX.out).mono ?_); rintro e w5 ⟨rfl, b5⟩; have s0 := cell_be n0 b5; have s1 := cell_be n1 b5; have s2 := cell_be n2 b5; have X5 := wbox_keep X3.out b5; have j3 := wbox_cells X5; obtain ⟨⟨r0, r1, r2⟩, r3, r4, r5⟩ := j3; have B5 := hid b5; have H5 := hid X5)
  refine bodyPost_ret (wresults_box2 rfl _ _ (w.heap.size + 1 + 1) (.int .i64 kw.n) (.slice a xss.length c) (.slice a' xss.length c') rfl (by simp [go_sem, r0]) (by simp [go_sem, r1]) (by simp [go_sem, r2])) rfl ?_
  refine ⟨g, L, lev, p, _, _, xss, ths, true, rfl, (W4.out.below B5.out).put3 H5.out (.inl rfl) _ _ _, (R4.out.below B5.out).put3 H5.out (by decide) _ _ _, ((HF.out.trans (FT.below B4.out)).trans (FT.below B5.out)).put3 (by omega) _ _ _, ⟨Nat.le_refl _, by omega, by omega, by omega⟩, by omega, fun m => ⟨m, rfl⟩, fun _ i _ => ⟨rfl, rfl⟩⟩

set_option maxRecDepth 20000 in
set_option maxHeartbeats 4000000 in
theorem act0_yes (I : ActI k kw w0 g L lev p H la ta xss ths a1 m1 c1 xs w) (v : Int) (hx : ∀ x ∈ xs, 0 ≤ x ∧ x < 2 * (kw.n : Int)) :
    Calls Try.prog 11 #[.pointer (some ⟨k.OB, 0, none⟩), .pointer (some ⟨kw.OB, 0, none⟩), .agg #[.int .i64 kw.n, la, ta], .agg #[.int .i64 0, .int .i64 v, .slice a1 m1 c1]] w fun e w' => ActEnd k kw w0 g p H xss ths 0 w e w' := by
  obtain ⟨a, c, a', c', rfl, rfl, h1, h2, h3, h4⟩ := I.r.shape
  have hN := I.W.j.s.l.hn
  have hm := I.hm
  have hB1 : Hid (Below w.heap.size w (((w.alloc (.cells #[.int .i64 kw.n, .slice a xss.length c, .slice a' xss.length c'] 32)).alloc (.cells #[.int .i64 0, .int .i64 v, .slice a1 m1 c1] 38)).alloc (.cells #[.int .i64 0, .slice none 0 0, .slice none 0 0] 32))) := hid (by go_grown)
  have HK := hid (three_boxes (Below.refl _ (((w.alloc (.cells #[.int .i64 kw.n, .slice a xss.length c, .slice a' xss.length c'] 32)).alloc (.cells #[.int .i64 0, .int .i64 v, .slice a1 m1 c1] 38)).alloc (.cells #[.int .i64 0, .slice none 0 0, .slice none 0 0] 32))))
  have HI := hid I
  clear I
  go_enter Try.func11, Try.ntmps11
  go_upto_region 1 with fail
  revert hB1 HK
  generalize (((w.alloc (.cells #[.int .i64 kw.n, .slice a xss.length c, .slice a' xss.length c'] 32)).alloc (.cells #[.int .i64 0, .int .i64 v, .slice a1 m1 c1] 38)).alloc (.cells #[.int .i64 0, .slice none 0 0, .slice none 0 0] 32)) = W1
  intro hB1 HK
  have HW := hid (HI.out.W.below hB1.out)
  have HR := hid (HI.out.r.below hB1.out)
  have HB0 := hid (Below.trans HI.out.b0 (hB1.out.mono HI.out.b0.size))
  have HF := hid (FT.below (k := k) (B := kw.B) (p := p) hB1.out)
  obtain ⟨k1, k2, k3, -⟩ := HK.out
  have j1 := wbox_cells k1
  obtain ⟨⟨d0, d1, d2⟩, d3, d4, d5⟩ := j1
  have j2 := wbox_cells k2
  obtain ⟨⟨e0, e1, e2⟩, e3, e4, e5⟩ := j2
  have K1 := hid k1
  have K2 := hid k2
  have K3 := hid k3
  clear k1 k2 k3 HK
  have HX := hid hx
  have hxl := HI.out.xl
  clear hx
  go_upto_region 4 with (go_at_call 26; with_reducible (refine (radd_yes HR.out HB0.out HI.out.row hm hN (by omega) HX.out).mono ?_); rintro e w3 ⟨la3, ta3, rfl, r3, b3⟩; have sh := r3.out.shape; obtain ⟨ya, yc, ya', yc', rfl, rfl, y1, y2, y3, y4⟩ := sh)
  rw [List.length_append, List.length_singleton] at y1 y3
  rw [List.length_append, List.length_singleton] at r3
  have B4 : Hid (Below w3.heap.size w3 (w3.alloc (.cells #[.int .i64 kw.n, .slice ya (xss.length + 1) yc, .slice ya' (xss.length + 1) yc'] 32))) := hid (by go_grown)
  have N4 : Hid ((w3.alloc (.cells #[.int .i64 kw.n, .slice ya (xss.length + 1) yc, .slice ya' (xss.length + 1) yc'] 32)).heap[w3.heap.size]? = some (.cells #[.int .i64 kw.n, .slice ya (xss.length + 1) yc, .slice ya' (xss.length + 1) yc'] 32 (0, 0))) := hid (new_same w3 _)
  revert B4 N4
  generalize (w3.alloc (.cells #[.int .i64 kw.n, .slice ya (xss.length + 1) yc, .slice ya' (xss.length + 1) yc'] 32)) = w4
  intro B4 N4
  clear d0 d1 d2 d3 d4 d5 e3 e4 e5
  have B34 := hid (Below.next b3.out B4.out)
  have q2 := cell_be e2 B34.out
  have W4 := hid (HW.out.below B34.out)
  have R4 := hid (r3.out.below B4.out)
  have X3 := hid (wbox_keep K3.out B34.out)
  have hnx : g.nx ≤ 1000000 := by have := HI.out.nx; omega
  by_cases hmn : xss.length = g.nx
  · have hmb : ((xss.length : Int) == (g.nx : Int)) = true := by rw [beq_iff_eq]; omega
    clear hmn
    go_wp2_with (go_at_call 17; with_reducible (refine (add_is W4.out _ (HI.out.row.keep (Below.trans HB0.out (B34.out.mono HB0.out.size))) (by omega) HX.out hnx HI.out.pl).mono ?_); rintro e w5 ⟨g5, rfl, W5, D5, F5⟩; have M5 := F5.out.box N4.out (.inl rfl); have n4 := wbox_cells M5; obtain ⟨⟨n0, n1, n2⟩, -⟩ := n4; have X5 := F5.out.box X3.out (.inl rfl); have j3 := wbox_cells X5; obtain ⟨⟨r0, r1, r2⟩, rr3, rr4, rr5⟩ := j3; have H5 := hid X5)
    refine bodyPost_ret (wresults_box2 rfl _ _ (w.heap.size + 1 + 1) (.int .i64 kw.n) (.slice ya (xss.length + 1) yc) (.slice ya' (xss.length + 1) yc') rfl (by simp [go_sem, r0]) (by simp [go_sem, r1]) (by simp [go_sem, r2])) rfl ?_
    have FE := (HF.out.trans (FT.below B34.out)).trans (FT.fw F5.out)
    refine ⟨g5, L, lev, p, _, _, xss ++ [xs], ths ++ [true], true, rfl, W5.out.put3 H5.out (.inl rfl) _ _ _, (R4.out.ft W4.out.j.t (FT.fw (B := kw.B) F5.out)).put3 H5.out (by decide) _ _ _, FE.put3 (by omega) _ _ _, ⟨?_, ?_, ?_, ?_⟩, by simp, fun m => ⟨m.add D5.out, rfl⟩, fun _ i hi => ?_⟩
    · rw [D5.out.nx]; omega
    · rw [D5.out.nx]; omega
    · rw [D5.out.rm]; omega
    · rw [D5.out.su]; omega
    · rw [D5.out.lt, D5.out.gn, up_ne _ _ (by omega), up_ne _ _ (by omega)]; exact ⟨rfl, rfl⟩
  · have hmb : ((xss.length : Int) == (g.nx : Int)) = false := by rw [beq_eq_false_iff_ne]; omega
    have HMN := hid hmn
    clear hmn
    go_wp2_with (go_at_call 17; with_reducible (refine (add_is W4.out _ (HI.out.row.keep (Below.trans HB0.out (B34.out.mono HB0.out.size))) (by omega) HX.out hnx HI.out.pl).mono ?_); rintro e w5 ⟨g5, rfl, W5, D5, F5⟩; have M5 := F5.out.box N4.out (.inl rfl); have n4 := wbox_cells M5; obtain ⟨⟨n0, n1, n2⟩, -⟩ := n4; have X5 := F5.out.box X3.out (.inl rfl); have j3 := wbox_cells X5; obtain ⟨⟨r0, r1, r2⟩, rr3, rr4, rr5⟩ := j3; have H5 := hid X5)
    refine bodyPost_ret (wresults_box2 rfl _ _ (w.heap.size + 1 + 1) (.int .i64 kw.n) (.slice ya (xss.length + 1) yc) (.slice ya' (xss.length + 1) yc') rfl (by simp [go_sem, r0]) (by simp [go_sem, r1]) (by simp [go_sem, r2])) rfl ?_
    have FE := (HF.out.trans (FT.below B34.out)).trans (FT.fw F5.out)
    refine ⟨g5, L, lev, p, _, _, xss ++ [xs], ths ++ [true], false, rfl, W5.out.put3 H5.out (.inl rfl) _ _ _, (R4.out.ft W4.out.j.t (FT.fw (B := kw.B) F5.out)).put3 H5.out (by decide) _ _ _, FE.put3 (by omega) _ _ _, ⟨?_, ?_, ?_, ?_⟩, by simp, fun m => absurd m.nx HMN.out, fun _ i hi => ?_⟩
    · rw [D5.out.nx]; omega
    · rw [D5.out.nx]; omega
    · rw [D5.out.rm]; omega
    · rw [D5.out.su]; omega
    · rw [D5.out.lt, D5.out.gn, up_ne _ _ (by omega), up_ne _ _ (by omega)]; exact ⟨rfl, rfl⟩

set_option maxRecDepth 20000 in
set_option maxHeartbeats 4000000 in
theorem act1_used (I : ActI k kw w0 g L lev p H la ta xss ths a1 m1 c1 xs w) (v : Int) (hu : usedF L v = true) :
    Calls Try.prog 11 #[.pointer (some ⟨k.OB, 0, none⟩), .pointer (some ⟨kw.OB, 0, none⟩), .agg #[.int .i64 kw.n, la, ta], .agg #[.int .i64 1, .int .i64 v, .slice a1 m1 c1]] w fun e w' => ActEnd k kw w0 g p H xss ths 1 w e w' := by
  obtain ⟨a, c, a', c', rfl, rfl, h1, h2, h3, h4⟩ := I.r.shape
  have hN := I.W.j.s.l.hn
  have hm := I.hm
  have hB1 : Hid (Below w.heap.size w (((w.alloc (.cells #[.int .i64 kw.n, .slice a xss.length c, .slice a' xss.length c'] 32)).alloc (.cells #[.int .i64 1, .int .i64 v, .slice a1 m1 c1] 38)).alloc (.cells #[.int .i64 0, .slice none 0 0, .slice none 0 0] 32))) := hid (by go_grown)
  have HK := hid (three_boxes (Below.refl _ (((w.alloc (.cells #[.int .i64 kw.n, .slice a xss.length c, .slice a' xss.length c'] 32)).alloc (.cells #[.int .i64 1, .int .i64 v, .slice a1 m1 c1] 38)).alloc (.cells #[.int .i64 0, .slice none 0 0, .slice none 0 0] 32))))
  have HI := hid I
  clear I
  go_enter Try.func11, Try.ntmps11
  go_upto_region 1 with fail
  revert hB1 HK
  generalize (((w.alloc (.cells #[.int .i64 kw.n, .slice a xss.length c, .slice a' xss.length c'] 32)).alloc (.cells #[.int .i64 1, .int .i64 v, .slice a1 m1 c1] 38)).alloc (.cells #[.int .i64 0, .slice none 0 0, .slice none 0 0] 32)) = W1
  intro hB1 HK
  have HW := hid (HI.out.W.below hB1.out)
  have HR := hid (HI.out.r.below hB1.out)
  have HB0 := hid (Below.trans HI.out.b0 (hB1.out.mono HI.out.b0.size))
  have HF := hid (FT.below (k := k) (B := kw.B) (p := p) hB1.out)
  obtain ⟨k1, k2, k3, -⟩ := HK.out
  have j1 := wbox_cells k1
  obtain ⟨⟨d0, d1, d2⟩, d3, d4, d5⟩ := j1
  have j2 := wbox_cells k2
  obtain ⟨⟨e0, e1, e2⟩, e3, e4, e5⟩ := j2
  have K1 := hid k1
  have K2 := hid k2
  have K3 := hid k3
  clear k1 k2 k3 HK
  have HU := hid hu
  have j3 := wbox_cells K3.out
  obtain ⟨⟨r0, r1, r2⟩, r3, r4, r5⟩ := j3
  clear hu
  go_wp2_with (go_at_call 27; with_reducible (refine (used_any HW.out.j.t v HU.out).mono ?_); rintro e w3 ⟨rfl, rfl⟩)
  refine bodyPost_ret (wresults_box2 rfl _ _ (w.heap.size + 1 + 1) (.int .i64 kw.n) (.slice a xss.length c) (.slice a' xss.length c') rfl (by simp [go_sem, r0]) (by simp [go_sem, r1]) (by simp [go_sem, r2])) rfl ?_
  exact ⟨g, L, lev, p, _, _, xss, ths, true, rfl, HW.out.put3 K3.out (.inl rfl) _ _ _, HR.out.put3 K3.out (by decide) _ _ _, HF.out.put3 (by omega) _ _ _, ⟨Nat.le_refl _, by omega, by omega, by omega⟩, by omega, fun m => ⟨m, rfl⟩, fun _ i _ => ⟨rfl, rfl⟩⟩

set_option maxRecDepth 20000 in
set_option maxHeartbeats 4000000 in
theorem act1_no (I : ActI k kw w0 g L lev p H la ta xss ths a1 m1 c1 xs w) (v : Int) (hv0 : -9223372036854775808 ≤ v) (hv1 : v ≤ 9223372036854775807) (hu : usedF L v = false) (mt : Match g xss ths) (hl : live g v = false) :
    Calls Try.prog 11 #[.pointer (some ⟨k.OB, 0, none⟩), .pointer (some ⟨kw.OB, 0, none⟩), .agg #[.int .i64 kw.n, la, ta], .agg #[.int .i64 1, .int .i64 v, .slice a1 m1 c1]] w fun e w' => ActEnd k kw w0 g p H xss ths 1 w e w' := by
  obtain ⟨a, c, a', c', rfl, rfl, h1, h2, h3, h4⟩ := I.r.shape
  have hN := I.W.j.s.l.hn
  have hm := I.hm
  have hB1 : Hid (Below w.heap.size w (((w.alloc (.cells #[.int .i64 kw.n, .slice a xss.length c, .slice a' xss.length c'] 32)).alloc (.cells #[.int .i64 1, .int .i64 v, .slice a1 m1 c1] 38)).alloc (.cells #[.int .i64 0, .slice none 0 0, .slice none 0 0] 32))) := hid (by go_grown)
  have HK := hid (three_boxes (Below.refl _ (((w.alloc (.cells #[.int .i64 kw.n, .slice a xss.length c, .slice a' xss.length c'] 32)).alloc (.cells #[.int .i64 1, .int .i64 v, .slice a1 m1 c1] 38)).alloc (.cells #[.int .i64 0, .slice none 0 0, .slice none 0 0] 32))))
  have HI := hid I
  clear I
  go_enter Try.func11, Try.ntmps11
  go_upto_region 1 with fail
  revert hB1 HK
  generalize (((w.alloc (.cells #[.int .i64 kw.n, .slice a xss.length c, .slice a' xss.length c'] 32)).alloc (.cells #[.int .i64 1, .int .i64 v, .slice a1 m1 c1] 38)).alloc (.cells #[.int .i64 0, .slice none 0 0, .slice none 0 0] 32)) = W1
  intro hB1 HK
  have HW := hid (HI.out.W.below hB1.out)
  have HR := hid (HI.out.r.below hB1.out)
  have HB0 := hid (Below.trans HI.out.b0 (hB1.out.mono HI.out.b0.size))
  have HF := hid (FT.below (k := k) (B := kw.B) (p := p) hB1.out)
  obtain ⟨k1, k2, k3, -⟩ := HK.out
  have j1 := wbox_cells k1
  obtain ⟨⟨d0, d1, d2⟩, d3, d4, d5⟩ := j1
  have j2 := wbox_cells k2
  obtain ⟨⟨e0, e1, e2⟩, e3, e4, e5⟩ := j2
  have K1 := hid k1
  have K2 := hid k2
  have K3 := hid k3
  clear k1 k2 k3 HK
  have HU := hid hu
  have HL := hid hl
  have HT : Hid (isT ths v = false) := hid (by rw [mt.lv]; exact hl)
  clear hu mt hl
  go_upto_region 10 with (first
    | (go_at_call 27; with_reducible (refine (used_any HW.out.j.t v HU.out).mono ?_); rintro e w3 ⟨rfl, rfl⟩)
    | (go_at_call 28; with_reducible (refine (rrem_no HR.out v HT.out).mono ?_); rintro e w4 ⟨rfl, b4⟩))
  have B5 : Hid (Below w4.heap.size w4 (w4.alloc (.cells #[.int .i64 kw.n, .slice a xss.length c, .slice a' xss.length c'] 32))) := hid (by go_grown)
  have N5 : Hid ((w4.alloc (.cells #[.int .i64 kw.n, .slice a xss.length c, .slice a' xss.length c'] 32)).heap[w4.heap.size]? = some (.cells #[.int .i64 kw.n, .slice a xss.length c, .slice a' xss.length c'] 32 (0, 0))) := hid (new_same w4 _)
  revert B5 N5
  generalize (w4.alloc (.cells #[.int .i64 kw.n, .slice a xss.length c, .slice a' xss.length c'] 32)) = w5
  intro B5 N5
  have B45 := hid (Below.next b4.out B5.out)
  have q1 := cell_be e1 B45.out
  have n5 := wbox_cells N5.out
  obtain ⟨⟨n0, n1, n2⟩, -⟩ := n5
  have W5 := hid (HW.out.below B45.out)
  have X5 := hid (wbox_keep K3.out B45.out)
  have j3 := wbox_cells X5.out
  obtain ⟨⟨r0, r1, r2⟩, r3, r4, r5⟩ := j3
  clear d0 d1 d2 d3 d4 d5 e0 e1 e2 e3 e4 e5
  go_region_with (go_at_call 21; with_reducible (refine (remove_no W5.out.j.s.drew v hv0 hv1 HL.out).mono ?_); rintro e w6 ⟨rfl, rfl⟩)
  all_goals go_wp2
  all_goals refine bodyPost_ret (wresults_box2 rfl _ _ (w.heap.size + 1 + 1) (.int .i64 kw.n) (.slice a xss.length c) (.slice a' xss.length c') rfl (by simp [go_sem, r0]) (by simp [go_sem, r1]) (by simp [go_sem, r2])) rfl ?_
  all_goals have WF := (W5.out.below (below_drew w5)).put3 (r := w.heap.size + 1 + 1) X5.out (.inl rfl) (.int .i64 (kw.n : Int)) (.slice a xss.length c) (.slice a' xss.length c')
  all_goals have RF := ((HR.out.below B45.out).below (below_drew w5)).put3 (r := w.heap.size + 1 + 1) X5.out (by decide) (.int .i64 (kw.n : Int)) (.slice a xss.length c) (.slice a' xss.length c')
  all_goals have FF := ((HF.out.trans (FT.below B45.out)).trans (FT.below (below_drew w5))).put3 (r := w.heap.size + 1 + 1) (by omega) (.int .i64 (kw.n : Int)) (.slice a xss.length c) (.slice a' xss.length c')
  all_goals exact ⟨g, L, lev, p, _, _, xss, ths, true, rfl, WF, RF, FF, ⟨Nat.le_refl _, by omega, by omega, by omega⟩, by omega, fun m => ⟨m, rfl⟩, fun _ i _ => ⟨rfl, rfl⟩⟩

set_option maxRecDepth 20000 in
set_option maxHeartbeats 4000000 in
theorem act1_yes (I : ActI k kw w0 g L lev p H la ta xss ths a1 m1 c1 xs w) (v : Nat) (hu : usedF L v = false) (mt : Match g xss ths) (hv : v < g.nx) (hg : g.gn v = false) :
    Calls Try.prog 11 #[.pointer (some ⟨k.OB, 0, none⟩), .pointer (some ⟨kw.OB, 0, none⟩), .agg #[.int .i64 kw.n, la, ta], .agg #[.int .i64 1, .int .i64 (v : Int), .slice a1 m1 c1]] w fun e w' => ActEnd k kw w0 g p H xss ths 1 w e w' := by
  obtain ⟨a, c, a', c', rfl, rfl, h1, h2, h3, h4⟩ := I.r.shape
  have hN := I.W.j.s.l.hn
  have hm := I.hm
  have hB1 : Hid (Below w.heap.size w (((w.alloc (.cells #[.int .i64 kw.n, .slice a xss.length c, .slice a' xss.length c'] 32)).alloc (.cells #[.int .i64 1, .int .i64 (v : Int), .slice a1 m1 c1] 38)).alloc (.cells #[.int .i64 0, .slice none 0 0, .slice none 0 0] 32))) := hid (by go_grown)
  have HK := hid (three_boxes (Below.refl _ (((w.alloc (.cells #[.int .i64 kw.n, .slice a xss.length c, .slice a' xss.length c'] 32)).alloc (.cells #[.int .i64 1, .int .i64 (v : Int), .slice a1 m1 c1] 38)).alloc (.cells #[.int .i64 0, .slice none 0 0, .slice none 0 0] 32))))
  have HI := hid I
  clear I
  go_enter Try.func11, Try.ntmps11
  go_upto_region 1 with fail
  revert hB1 HK
  generalize (((w.alloc (.cells #[.int .i64 kw.n, .slice a xss.length c, .slice a' xss.length c'] 32)).alloc (.cells #[.int .i64 1, .int .i64 (v : Int), .slice a1 m1 c1] 38)).alloc (.cells #[.int .i64 0, .slice none 0 0, .slice none 0 0] 32)) = W1
  intro hB1 HK
  have HW := hid (HI.out.W.below hB1.out)
  have HR := hid (HI.out.r.below hB1.out)
  have HB0 := hid (Below.trans HI.out.b0 (hB1.out.mono HI.out.b0.size))
  have HF := hid (FT.below (k := k) (B := kw.B) (p := p) hB1.out)
  obtain ⟨k1, k2, k3, -⟩ := HK.out
  have j1 := wbox_cells k1
  obtain ⟨⟨d0, d1, d2⟩, d3, d4, d5⟩ := j1
  have j2 := wbox_cells k2
  obtain ⟨⟨e0, e1, e2⟩, e3, e4, e5⟩ := j2
  have K1 := hid k1
  have K2 := hid k2
  have K3 := hid k3
  clear k1 k2 k3 HK
  have HU := hid hu
  have HT : Hid (isT ths v = true) := hid (mt.is hv hg)
  have HUU : Hid (∀ e ∈ L, e.r ≠ v) := hid (fun e he h => by
    rw [usedF, List.any_eq_false] at hu
    have := hu e he
    rw [h] at this
    simp at this)
  have HMT := hid mt
  have hxl := HI.out.xl
  have hnx := HI.out.nx
  have hrm := HI.out.rm
  clear hu mt
  go_upto_region 10 with (first
    | (go_at_call 27; with_reducible (refine (used_any HW.out.j.t _ HU.out).mono ?_); rintro e w3 ⟨rfl, rfl⟩)
    | (go_at_call 28; with_reducible (refine (rrem_yes HR.out HB0.out (by omega) v HT.out).mono ?_); rintro e w4 ⟨ta4, rfl, R4, b4⟩; have sh := R4.out.shape; obtain ⟨-, -, ya', yc', -, rfl, y1, y2, y3, y4⟩ := sh))
  have B5 : Hid (Below w4.heap.size w4 (w4.alloc (.cells #[.int .i64 kw.n, .slice a xss.length c, .slice ya' xss.length yc'] 32))) := hid (by go_grown)
  have N5 : Hid ((w4.alloc (.cells #[.int .i64 kw.n, .slice a xss.length c, .slice ya' xss.length yc'] 32)).heap[w4.heap.size]? = some (.cells #[.int .i64 kw.n, .slice a xss.length c, .slice ya' xss.length yc'] 32 (0, 0))) := hid (new_same w4 _)
  revert B5 N5
  generalize (w4.alloc (.cells #[.int .i64 kw.n, .slice a xss.length c, .slice ya' xss.length yc'] 32)) = w5
  intro B5 N5
  have B45 := hid (Below.next b4.out B5.out)
  have q1 := cell_be e1 B45.out
  have n5 := wbox_cells N5.out
  obtain ⟨⟨n0, n1, n2⟩, -⟩ := n5
  have W5 := hid ((HW.out.below B45.out).below (below_drew w5))
  have R5 := hid ((R4.out.below B5.out).below (below_drew w5))
  have X5 := hid (wbox_keep (wbox_keep K3.out B45.out) (below_drew w5))
  have F5 := hid ((HF.out.trans (FT.below B45.out)).trans (FT.below (below_drew w5)))
  clear d0 d1 d2 d3 d4 d5 e0 e1 e2 e3 e4 e5
  go_region_with (go_at_call 21; with_reducible (refine (remove_is W5.out hv hg (by omega) (by omega) HUU.out).mono ?_); rintro e w6 ⟨rfl, g6, W6, D6, F6⟩; have M6 := F6.out.box (wbox_keep N5.out (below_drew w5)) (.inl rfl); have n6 := wbox_cells M6; obtain ⟨⟨m0, m1', m2⟩, -⟩ := n6; have X6 := F6.out.box X5.out (.inl rfl); have j3 := wbox_cells X6; obtain ⟨⟨r0, r1, r2⟩, r3, r4, r5⟩ := j3; have H6 := hid X6)
  all_goals go_wp2
  all_goals refine bodyPost_ret (wresults_box2 rfl _ _ (w.heap.size + 1 + 1) (.int .i64 kw.n) (.slice a xss.length c) (.slice ya' xss.length yc') rfl (by simp [go_sem, r0]) (by simp [go_sem, r1]) (by simp [go_sem, r2])) rfl ?_
  all_goals have WF := W6.out.put3 (r := w.heap.size + 1 + 1) H6.out (.inl rfl) (.int .i64 (kw.n : Int)) (.slice a xss.length c) (.slice ya' xss.length yc')
  all_goals have RF := (R5.out.ft W5.out.j.t (FT.fw (B := kw.B) F6.out)).put3 (r := w.heap.size + 1 + 1) H6.out (by decide) (.int .i64 (kw.n : Int)) (.slice a xss.length c) (.slice ya' xss.length yc')
  all_goals have FF := (F5.out.trans (FT.fw F6.out)).put3 (r := w.heap.size + 1 + 1) (by omega) (.int .i64 (kw.n : Int)) (.slice a xss.length c) (.slice ya' xss.length yc')
  all_goals have NX := D6.out.1.nx
  all_goals have SU := D6.out.1.su
  all_goals have RM := D6.out.2
  all_goals exact ⟨g6, L, lev, p, _, _, xss, ths.set v false, true, rfl, WF, RF, FF, ⟨by omega, by omega, by omega, by omega⟩, by omega, fun m => ⟨m.rem D6.out.1 hv, rfl⟩, fun h => absurd rfl h⟩

set_option maxRecDepth 20000 in
set_option maxHeartbeats 4000000 in
theorem act2 (I : ActI k kw w0 g L lev p H la ta xss ths a1 m1 c1 xs w) (v : Int) :
    Calls Try.prog 11 #[.pointer (some ⟨k.OB, 0, none⟩), .pointer (some ⟨kw.OB, 0, none⟩), .agg #[.int .i64 kw.n, la, ta], .agg #[.int .i64 2, .int .i64 v, .slice a1 m1 c1]] w fun e w' => ActEnd k kw w0 g p H xss ths 2 w e w' := by
  obtain ⟨a, c, a', c', rfl, rfl, h1, h2, h3, h4⟩ := I.r.shape
  have hN := I.W.j.s.l.hn
  have hm := I.hm
  have hB1 : Hid (Below w.heap.size w (((w.alloc (.cells #[.int .i64 kw.n, .slice a xss.length c, .slice a' xss.length c'] 32)).alloc (.cells #[.int .i64 2, .int .i64 v, .slice a1 m1 c1] 38)).alloc (.cells #[.int .i64 0, .slice none 0 0, .slice none 0 0] 32))) := hid (by go_grown)
  have HK := hid (three_boxes (Below.refl _ (((w.alloc (.cells #[.int .i64 kw.n, .slice a xss.length c, .slice a' xss.length c'] 32)).alloc (.cells #[.int .i64 2, .int .i64 v, .slice a1 m1 c1] 38)).alloc (.cells #[.int .i64 0, .slice none 0 0, .slice none 0 0] 32))))
  have HI := hid I
  clear I
  go_enter Try.func11, Try.ntmps11
  go_upto_region 1 with fail
  revert hB1 HK
  generalize (((w.alloc (.cells #[.int .i64 kw.n, .slice a xss.length c, .slice a' xss.length c'] 32)).alloc (.cells #[.int .i64 2, .int .i64 v, .slice a1 m1 c1] 38)).alloc (.cells #[.int .i64 0, .slice none 0 0, .slice none 0 0] 32)) = W1
  intro hB1 HK
  have HW := hid (HI.out.W.below hB1.out)
  have HR := hid (HI.out.r.below hB1.out)
  have HB0 := hid (Below.trans HI.out.b0 (hB1.out.mono HI.out.b0.size))
  have HF := hid (FT.below (k := k) (B := kw.B) (p := p) hB1.out)
  obtain ⟨k1, k2, k3, -⟩ := HK.out
  have j1 := wbox_cells k1
  obtain ⟨⟨d0, d1, d2⟩, d3, d4, d5⟩ := j1
  have j2 := wbox_cells k2
  obtain ⟨⟨e0, e1, e2⟩, e3, e4, e5⟩ := j2
  have K1 := hid k1
  have K2 := hid k2
  have K3 := hid k3
  clear k1 k2 k3 HK
  obtain ⟨y, hy⟩ : ∃ y, firstF xs = y := ⟨_, rfl⟩
  have hyb : y ≤ 9223372036854775807 := by
    rw [← hy, firstF]
    have hf := HI.out.row.2.2.2.2.1
    cases xs with
    | nil => simp
    | cons q qs => exact (hf q (by simp)).2
  have HY := hid hy
  clear hy
  go_wp2_with (first
    | (go_at_call 30; with_reducible (refine (first_any (w0 := w0) _ _ (HI.out.row.keep HB0.out) HY.out).mono ?_); rintro e w3 ⟨rfl, b3⟩; have W3 := hid (HW.out.below b3.out); have KB1 := hid (wbox_keep K1.out b3.out); have KB3 := hid (wbox_keep K3.out b3.out))
    | (go_at_call 29; with_reducible (refine (wa_decide W3.out y hyb).mono ?_); rintro e w4 ⟨b5, p4, rfl, W4, F4⟩; have M4 := FT.box W3.out.j.t F4.out KB1.out (.inl rfl); have n4 := wbox_cells M4; obtain ⟨⟨n0, n1, n2⟩, -⟩ := n4; have X4 := FT.box W3.out.j.t F4.out KB3.out (.inl rfl); have j3 := wbox_cells X4; obtain ⟨⟨r0, r1, r2⟩, r3, r4, r5⟩ := j3; have H4 := hid X4))
  refine bodyPost_ret (wresults_box2 rfl _ _ (w.heap.size + 1 + 1) (.int .i64 kw.n) (.slice a xss.length c) (.slice a' xss.length c') rfl (by simp [go_sem, r0]) (by simp [go_sem, r1]) (by simp [go_sem, r2])) rfl ?_
  exact ⟨g, (addL k.n L y (lev + 1) (-1)), (decV k.n L lev y), p4, _, _, xss, ths, true, rfl, W4.out.put3 H4.out (.inl rfl) _ _ _, ((HR.out.below b3.out).ft W3.out.j.t F4.out).put3 H4.out (by decide) _ _ _, ((HF.out.trans (FT.below b3.out)).trans F4.out).put3 (by omega) _ _ _, ⟨Nat.le_refl _, by omega, by omega, by omega⟩, by omega, fun m => ⟨m, rfl⟩, fun _ i _ => ⟨rfl, rfl⟩⟩

set_option maxRecDepth 20000 in
set_option maxHeartbeats 4000000 in
theorem act3 (I : ActI k kw w0 g L lev p H la ta xss ths a1 m1 c1 xs w) (v : Int) :
    Calls Try.prog 11 #[.pointer (some ⟨k.OB, 0, none⟩), .pointer (some ⟨kw.OB, 0, none⟩), .agg #[.int .i64 kw.n, la, ta], .agg #[.int .i64 3, .int .i64 v, .slice a1 m1 c1]] w fun e w' => ActEnd k kw w0 g p H xss ths 3 w e w' := by
  obtain ⟨a, c, a', c', rfl, rfl, h1, h2, h3, h4⟩ := I.r.shape
  have hN := I.W.j.s.l.hn
  have hm := I.hm
  have hB1 : Hid (Below w.heap.size w (((w.alloc (.cells #[.int .i64 kw.n, .slice a xss.length c, .slice a' xss.length c'] 32)).alloc (.cells #[.int .i64 3, .int .i64 v, .slice a1 m1 c1] 38)).alloc (.cells #[.int .i64 0, .slice none 0 0, .slice none 0 0] 32))) := hid (by go_grown)
  have HK := hid (three_boxes (Below.refl _ (((w.alloc (.cells #[.int .i64 kw.n, .slice a xss.length c, .slice a' xss.length c'] 32)).alloc (.cells #[.int .i64 3, .int .i64 v, .slice a1 m1 c1] 38)).alloc (.cells #[.int .i64 0, .slice none 0 0, .slice none 0 0] 32))))
  have HI := hid I
  clear I
  go_enter Try.func11, Try.ntmps11
  go_upto_region 1 with fail
  revert hB1 HK
  generalize (((w.alloc (.cells #[.int .i64 kw.n, .slice a xss.length c, .slice a' xss.length c'] 32)).alloc (.cells #[.int .i64 3, .int .i64 v, .slice a1 m1 c1] 38)).alloc (.cells #[.int .i64 0, .slice none 0 0, .slice none 0 0] 32)) = W1
  intro hB1 HK
  have HW := hid (HI.out.W.below hB1.out)
  have HR := hid (HI.out.r.below hB1.out)
  have HB0 := hid (Below.trans HI.out.b0 (hB1.out.mono HI.out.b0.size))
  have HF := hid (FT.below (k := k) (B := kw.B) (p := p) hB1.out)
  obtain ⟨k1, k2, k3, -⟩ := HK.out
  have j1 := wbox_cells k1
  obtain ⟨⟨d0, d1, d2⟩, d3, d4, d5⟩ := j1
  have j2 := wbox_cells k2
  obtain ⟨⟨e0, e1, e2⟩, e3, e4, e5⟩ := j2
  have K1 := hid k1
  have K2 := hid k2
  have K3 := hid k3
  clear k1 k2 k3 HK
  go_wp2_with (go_at_call 16; with_reducible (refine (wa_back HW.out v).mono ?_); rintro e w4 ⟨ao4, m4, c4, p4, rfl, W4, F4⟩; have M4 := FT.box HW.out.j.t F4.out K1.out (.inl rfl); have n4 := wbox_cells M4; obtain ⟨⟨n0, n1, n2⟩, -⟩ := n4; have X4 := FT.box HW.out.j.t F4.out K3.out (.inl rfl); have j3 := wbox_cells X4; obtain ⟨⟨r0, r1, r2⟩, r3, r4, r5⟩ := j3; have H4 := hid X4)
  refine bodyPost_ret (wresults_box2 rfl _ _ (w.heap.size + 1 + 1) (.int .i64 kw.n) (.slice a xss.length c) (.slice a' xss.length c') rfl (by simp [go_sem, r0]) (by simp [go_sem, r1]) (by simp [go_sem, r2])) rfl ?_
  exact ⟨g, backL L lev v, backV lev v, p4, _, _, xss, ths, true, rfl, W4.out.put3 H4.out (.inl rfl) _ _ _, (HR.out.ft HW.out.j.t F4.out).put3 H4.out (by decide) _ _ _, (HF.out.trans F4.out).put3 (by omega) _ _ _, ⟨Nat.le_refl _, by omega, by omega, by omega⟩, by omega, fun m => ⟨m, rfl⟩, fun _ i _ => ⟨rfl, rfl⟩⟩

set_option maxRecDepth 20000 in
set_option maxHeartbeats 4000000 in
theorem act4 (I : ActI k kw w0 g L lev p H la ta xss ths a1 m1 c1 xs w) (v : Int) :
    Calls Try.prog 11 #[.pointer (some ⟨k.OB, 0, none⟩), .pointer (some ⟨kw.OB, 0, none⟩), .agg #[.int .i64 kw.n, la, ta], .agg #[.int .i64 4, .int .i64 v, .slice a1 m1 c1]] w fun e w' => ActEnd k kw w0 g p H xss ths 4 w e w' := by
  obtain ⟨a, c, a', c', rfl, rfl, h1, h2, h3, h4⟩ := I.r.shape
  have hN := I.W.j.s.l.hn
  have hm := I.hm
  have hB1 : Hid (Below w.heap.size w (((w.alloc (.cells #[.int .i64 kw.n, .slice a xss.length c, .slice a' xss.length c'] 32)).alloc (.cells #[.int .i64 4, .int .i64 v, .slice a1 m1 c1] 38)).alloc (.cells #[.int .i64 0, .slice none 0 0, .slice none 0 0] 32))) := hid (by go_grown)
  have HK := hid (three_boxes (Below.refl _ (((w.alloc (.cells #[.int .i64 kw.n, .slice a xss.length c, .slice a' xss.length c'] 32)).alloc (.cells #[.int .i64 4, .int .i64 v, .slice a1 m1 c1] 38)).alloc (.cells #[.int .i64 0, .slice none 0 0, .slice none 0 0] 32))))
  have HI := hid I
  clear I
  go_enter Try.func11, Try.ntmps11
  go_upto_region 1 with fail
  revert hB1 HK
  generalize (((w.alloc (.cells #[.int .i64 kw.n, .slice a xss.length c, .slice a' xss.length c'] 32)).alloc (.cells #[.int .i64 4, .int .i64 v, .slice a1 m1 c1] 38)).alloc (.cells #[.int .i64 0, .slice none 0 0, .slice none 0 0] 32)) = W1
  intro hB1 HK
  have HW := hid (HI.out.W.below hB1.out)
  have HR := hid (HI.out.r.below hB1.out)
  have HB0 := hid (Below.trans HI.out.b0 (hB1.out.mono HI.out.b0.size))
  have HF := hid (FT.below (k := k) (B := kw.B) (p := p) hB1.out)
  obtain ⟨k1, k2, k3, -⟩ := HK.out
  have j1 := wbox_cells k1
  obtain ⟨⟨d0, d1, d2⟩, d3, d4, d5⟩ := j1
  have j2 := wbox_cells k2
  obtain ⟨⟨e0, e1, e2⟩, e3, e4, e5⟩ := j2
  have K1 := hid k1
  have K2 := hid k2
  have K3 := hid k3
  clear k1 k2 k3 HK
  obtain ⟨y, hy⟩ : ∃ y, firstF xs = y := ⟨_, rfl⟩
  have hyb : y ≤ 9223372036854775807 := by
    rw [← hy, firstF]
    have hf := HI.out.row.2.2.2.2.1
    cases xs with
    | nil => simp
    | cons q qs => exact (hf q (by simp)).2
  have HY := hid hy
  clear hy
  go_wp2_with (first
    | (go_at_call 30; with_reducible (refine (first_any (w0 := w0) _ _ (HI.out.row.keep HB0.out) HY.out).mono ?_); rintro e w3 ⟨rfl, b3⟩; have W3 := hid (HW.out.below b3.out); have KB1 := hid (wbox_keep K1.out b3.out); have KB3 := hid (wbox_keep K3.out b3.out))
    | (go_at_call 23; with_reducible (refine (wa_assign W3.out y hyb).mono ?_); rintro e w4 ⟨b5, p4, rfl, W4, F4⟩; have M4 := FT.box W3.out.j.t F4.out KB1.out (.inl rfl); have n4 := wbox_cells M4; obtain ⟨⟨n0, n1, n2⟩, -⟩ := n4; have X4 := FT.box W3.out.j.t F4.out KB3.out (.inl rfl); have j3 := wbox_cells X4; obtain ⟨⟨r0, r1, r2⟩, r3, r4, r5⟩ := j3; have H4 := hid X4))
  refine bodyPost_ret (wresults_box2 rfl _ _ (w.heap.size + 1 + 1) (.int .i64 kw.n) (.slice a xss.length c) (.slice a' xss.length c') rfl (by simp [go_sem, r0]) (by simp [go_sem, r1]) (by simp [go_sem, r2])) rfl ?_
  exact ⟨g, (addL k.n L y lev (-1)), lev, p4, _, _, xss, ths, true, rfl, W4.out.put3 H4.out (.inl rfl) _ _ _, ((HR.out.below b3.out).ft W3.out.j.t F4.out).put3 H4.out (by decide) _ _ _, ((HF.out.trans (FT.below b3.out)).trans F4.out).put3 (by omega) _ _ _, ⟨Nat.le_refl _, by omega, by omega, by omega⟩, by omega, fun m => ⟨m, rfl⟩, fun _ i _ => ⟨rfl, rfl⟩⟩

set_option maxRecDepth 20000 in
set_option maxHeartbeats 4000000 in
theorem act5 (I : ActI k kw w0 g L lev p H la ta xss ths a1 m1 c1 xs w) (kd v : Int) (h0 : kd ≠ 0) (h1 : kd ≠ 1) (h2 : kd ≠ 2) (h3 : kd ≠ 3) (h4 : kd ≠ 4) :
    Calls Try.prog 11 #[.pointer (some ⟨k.OB, 0, none⟩), .pointer (some ⟨kw.OB, 0, none⟩), .agg #[.int .i64 kw.n, la, ta], .agg #[.int .i64 kd, .int .i64 v, .slice a1 m1 c1]] w fun e w' => ActEnd k kw w0 g p H xss ths kd w e w' := by
  obtain ⟨a, c, a', c', rfl, rfl, z1, z2, z3, z4⟩ := I.r.shape
  have hN := I.W.j.s.l.hn
  have hm := I.hm
  have hB1 : Hid (Below w.heap.size w (((w.alloc (.cells #[.int .i64 kw.n, .slice a xss.length c, .slice a' xss.length c'] 32)).alloc (.cells #[.int .i64 kd, .int .i64 v, .slice a1 m1 c1] 38)).alloc (.cells #[.int .i64 0, .slice none 0 0, .slice none 0 0] 32))) := hid (by go_grown)
  have HK := hid (three_boxes (Below.refl _ (((w.alloc (.cells #[.int .i64 kw.n, .slice a xss.length c, .slice a' xss.length c'] 32)).alloc (.cells #[.int .i64 kd, .int .i64 v, .slice a1 m1 c1] 38)).alloc (.cells #[.int .i64 0, .slice none 0 0, .slice none 0 0] 32))))
  have HI := hid I
  clear I
  go_enter Try.func11, Try.ntmps11
  go_upto_region 1 with fail
  revert hB1 HK
  generalize (((w.alloc (.cells #[.int .i64 kw.n, .slice a xss.length c, .slice a' xss.length c'] 32)).alloc (.cells #[.int .i64 kd, .int .i64 v, .slice a1 m1 c1] 38)).alloc (.cells #[.int .i64 0, .slice none 0 0, .slice none 0 0] 32)) = W1
  intro hB1 HK
  have HW := hid (HI.out.W.below hB1.out)
  have HR := hid (HI.out.r.below hB1.out)
  have HB0 := hid (Below.trans HI.out.b0 (hB1.out.mono HI.out.b0.size))
  have HF := hid (FT.below (k := k) (B := kw.B) (p := p) hB1.out)
  obtain ⟨k1, k2, k3, -⟩ := HK.out
  have j1 := wbox_cells k1
  obtain ⟨⟨d0, d1, d2⟩, d3, d4, d5⟩ := j1
  have j2 := wbox_cells k2
  obtain ⟨⟨e0, e1, e2⟩, e3, e4, e5⟩ := j2
  have K1 := hid k1
  have K2 := hid k2
  have K3 := hid k3
  clear k1 k2 k3 HK
  have b0 : (kd == 0) = false := by simpa using h0
  have b1 : (kd == 1) = false := by simpa using h1
  have b2 : (kd == 2) = false := by simpa using h2
  have b3 : (kd == 3) = false := by simpa using h3
  have b4 : (kd == 4) = false := by simpa using h4
  have j3 := wbox_cells K3.out
  obtain ⟨⟨r0, r1, r2⟩, r3, r4, r5⟩ := j3
  clear h0 h1 h2 h3 h4
  go_wp2
  refine bodyPost_ret (wresults_box2 rfl _ _ (w.heap.size + 1 + 1) (.int .i64 kw.n) (.slice a xss.length c) (.slice a' xss.length c') rfl (by simp [go_sem, r0]) (by simp [go_sem, r1]) (by simp [go_sem, r2])) rfl ?_
  exact ⟨g, L, lev, p, _, _, xss, ths, true, rfl, HW.out.put3 K3.out (.inl rfl) _ _ _, HR.out.put3 K3.out (by decide) _ _ _, HF.out.put3 (by omega) _ _ _, ⟨Nat.le_refl _, by omega, by omega, by omega⟩, by omega, fun m => ⟨m, rfl⟩, fun _ i _ => ⟨rfl, rfl⟩⟩
end

end Go.Proofs.Ytbfaigeopkonbaa
