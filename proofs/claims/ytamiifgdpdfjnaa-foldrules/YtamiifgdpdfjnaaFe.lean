/-
  Unary, Binary, Ite of the package fold: each tells what its plan says.
-/
import Derived.Test.YtamiifgdpdfjnaaFd
namespace Go.Proofs.Ytamiifgdpdfjnaa
open Go.RowKit Go.Maps
set_option linter.unusedVariables false
set_option maxRecDepth 100000

theorem end_behind {k : K} {w w1 w' : World} {N : List Nd} {P : Nat → Prop} {p : Plan} (b : Below w.heap.size w w1) (h : MkEnd k N P p w1 w') : MkEnd k N P p w w' := by
  obtain ⟨P', h1, h2⟩ := h
  exact ⟨P', h1, (Fr.below b).trans h2⟩

theorem set_ops {N : List Nd} {op a b : Int} (h : setB N op a b = true) : 1 ≤ op ∧ op ≤ 14 := by
  unfold setB Wd.binE at h
  by_cases g : 1 ≤ op ∧ op ≤ 14
  · exact g
  · rw [if_neg g] at h; simp at h

theorem fbin_any {k : K} {w : World} {N : List Nd} {P : Nat → Prop} (s : Dg k w N P) (op a b : Int) :
    Calls Try.prog 8 #[.pointer (some ⟨k.DB, 0, none⟩), .int .i64 op, .int .i64 a, .int .i64 b] w fun e w' => e = .returned (.tuple #[.int .i64 (resI k.M N (fbinP N op a b)), .int .i64 (resE k.M N (fbinP N op a b))]) ∧ Hid (MkEnd k N P (fbinP N op a b) w w') := by
  have HS := hid s
  have HC := hid (Below.refl w.heap.size w)
  have HG := hid s.1
  clear s
  cases ha : alk N a b
  · have HA := hid ha
    refine tells (q := binP N op a b) (by simp [fbinP, ha]) ?_
    clear ha
    go_enter Try.func8, Try.ntmps8
    go_wp2_with (first
      | (go_at_call 22; with_reducible (refine (alike_step (w0 := w) (by assumption) (by assumption) a b HA.out).mono ?_); rintro e w2 ⟨rfl, s2, c2⟩)
      | (go_at_call 23; with_reducible (refine (binary_any s2.out op a b).mono ?_); rintro e w3 ⟨rfl, h3⟩))
    go_ret2
    exact ⟨rfl, hid (end_behind c2.out h3.out)⟩
  · cases hb : setB N op a b
    · cases hc : oneB N op a b
      · refine tells (q := binP N op a b) (by simp [fbinP, ha, hb, hc]) ?_
        have HA := hid ha
        have HB := hid hb
        have HO := hid hc
        clear ha hb hc
        go_enter Try.func8, Try.ntmps8
        go_wp2_with (first
          | (go_at_call 22; with_reducible (refine (alike_step (w0 := w) (by assumption) (by assumption) a b HA.out).mono ?_); rintro e w2 ⟨rfl, s2, c2⟩)
          | (go_at_call 24; with_reducible (refine (settled_any s2.out op a b).mono ?_); rintro e w3 ⟨rfl, s3, c3⟩; rw [HB.out])
          | (go_at_call 26; with_reducible (refine (one_any s3.out op a b).mono ?_); rintro e w4 ⟨rfl, s4, c4⟩; rw [HO.out])
          | (go_at_call 23; with_reducible (refine (binary_any s4.out op a b).mono ?_); rintro e w5 ⟨rfl, h5⟩))
        go_ret2
        exact ⟨rfl, hid (end_behind (Below.next c2.out (Below.next c3.out c4.out)) h5.out)⟩
      · refine tells (q := .inl (oneI N op a b, 0)) (by simp [fbinP, ha, hb, hc]) ?_
        have HA := hid ha
        have HB := hid hb
        have HO := hid hc
        clear ha hb hc
        go_enter Try.func8, Try.ntmps8
        go_wp2_with (first
          | (go_at_call 22; with_reducible (refine (alike_step (w0 := w) (by assumption) (by assumption) a b HA.out).mono ?_); rintro e w2 ⟨rfl, s2, c2⟩)
          | (go_at_call 24; with_reducible (refine (settled_any s2.out op a b).mono ?_); rintro e w3 ⟨rfl, s3, c3⟩; rw [HB.out])
          | (go_at_call 26; with_reducible (refine (one_any s3.out op a b).mono ?_); rintro e w4 ⟨rfl, s4, c4⟩; rw [HO.out]))
        go_ret2
        exact ⟨rfl, hid (end_no HS.out (Below.next c2.out (Below.next c3.out c4.out)) _ _)⟩
    · refine tells (q := constP (opW op (wdF N a)) (setV N op a b)) (by simp [fbinP, ha, hb]) ?_
      obtain ⟨x, hx⟩ : ∃ x, wdF N a = x := ⟨_, rfl⟩
      have ho := set_ops hb
      have o1 := ho.1
      have o2 := ho.2
      have bd := setV_bd HG.out op a b
      rw [hx]
      have HX := hid hx
      have HA := hid ha
      have HB := hid hb
      have BD := hid bd
      clear ha hb hx ho bd
      go_enter Try.func8, Try.ntmps8
      go_wp2_with (first
        | (go_at_call 22; with_reducible (refine (alike_step (w0 := w) (by assumption) (by assumption) a b HA.out).mono ?_); rintro e w2 ⟨rfl, s2, c2⟩)
        | (go_at_call 24; with_reducible (refine (settled_any s2.out op a b).mono ?_); rintro e w3 ⟨rfl, s3, c3⟩; rw [HB.out])
        | (go_at_call 6; with_reducible (refine (width_step (w0 := w3) s3 (hid (Below.refl _ _)) a HX.out).mono ?_); rintro e w4 ⟨rfl, s4, c4⟩)
        | (go_at_call 25; with_reducible (refine (fwidth_any _ _ _ o1 o2).mono ?_); rintro e w6 ⟨rfl, rfl⟩)
        | (go_at_call 7; with_reducible (refine (const_any s4.out (opW op x) (setV N op a b) BD.out.1 BD.out.2).mono ?_); rintro e w5 ⟨rfl, h5⟩))
      go_ret2
      exact ⟨rfl, hid (end_behind (Below.next c2.out (Below.next c3.out c4.out)) h5.out)⟩

theorem funary_any {k : K} {w : World} {N : List Nd} {P : Nat → Prop} (s : Dg k w N P) (op a : Int) :
    Calls Try.prog 11 #[.pointer (some ⟨k.DB, 0, none⟩), .int .i64 op, .int .i64 a] w fun e w' => e = .returned (.tuple #[.int .i64 (resI k.M N (funP N op a)), .int .i64 (resE k.M N (funP N op a))]) ∧ Hid (MkEnd k N P (funP N op a) w w') := by
  obtain ⟨t, ht⟩ : ∃ t, isN N a = t := ⟨_, rfl⟩
  obtain ⟨n1, hn⟩ : ∃ n1, ndA N a = n1 := ⟨_, rfl⟩
  have gf : t = true → Ft n1 := fun e => by rw [← hn]; exact s.1.ft _ (ndA_mem (ht.trans e))
  obtain ⟨nop, wd, na, nb, nc, nv⟩ := n1
  have HS := hid s
  have HT := hid ht
  have HN := hid hn
  have HG := hid gf
  have HE : Hid (funP N op a = if t && ((op == 15) || (op == 16)) then (if nop == 20 then constP wd (Wd.unF op wd nv) else if nop == op then .inl (na, 0) else unP N op a) else unP N op a) := hid (by unfold funP; rw [ht, hn])
  clear s ht hn gf
  have plain : funP N op a = unP N op a → ∀ w1, Hid (Dg k w1 N P) → Hid (Below w.heap.size w w1) → Calls Try.prog 29 #[.pointer (some ⟨k.DB, 0, none⟩), .int .i64 op, .int .i64 a] w1 fun e w' => e = .returned (.tuple #[.int .i64 (resI k.M N (funP N op a)), .int .i64 (resE k.M N (funP N op a))]) ∧ Hid (MkEnd k N P (funP N op a) w w') := by
    intro e w1 s1 b1
    rw [e]
    exact (unary_any s1.out op a).mono fun e w' h => ⟨h.1, hid (end_behind b1.out h.2.out)⟩
  cases t
  · have h1 := plain (by rw [HE.out]; rfl)
    have H1 := hid h1
    clear h1 plain
    go_enter Try.func11, Try.ntmps11
    go_wp2_with (first
      | (go_at_call 10; with_reducible (refine (node_as HS.out a HN.out HT.out).mono ?_); rintro e w2 ⟨rfl, b2⟩)
      | (go_at_call 29; with_reducible (refine (H1.out _ (hid (HS.out.below (Below.next b2.out (by go_grown)))) (hid (Below.next b2.out (by go_grown)))).mono ?_); rintro e w3 ⟨rfl, h3⟩))
    go_ret2
    exact ⟨rfl, h3⟩
  · by_cases ho : op = 15 ∨ op = 16
    · by_cases h20 : nop = 20
      · subst h20
        refine tells (q := constP wd (Wd.unF op wd nv)) (by rw [HE.out]; rcases ho with rfl | rfl <;> rfl) ?_
        have bv := (HG.out rfl).2.2.2.2.2
        have BV := hid bv
        have BU := hid (unF_bd op wd nv)
        clear bv plain HE HG
        rcases ho with rfl | rfl
        all_goals
          go_enter Try.func11, Try.ntmps11
          go_wp2_with (first
            | (go_at_call 10; with_reducible (refine (node_as HS.out a HN.out HT.out).mono ?_); rintro e w2 ⟨rfl, b2⟩)
            | (go_at_call 28; with_reducible (refine (Wd.unary_any _ _ _ _ BV.out.1 BV.out.2).mono ?_); rintro e w3 ⟨rfl, rfl⟩)
            | (go_at_call 7; with_reducible (refine (const_any (HS.out.below (Below.next b2.out (by go_grown))) _ _ BU.out.1 BU.out.2).mono ?_); rintro e w5 ⟨rfl, h5⟩))
          go_ret2
          exact ⟨rfl, hid (end_behind (Below.next b2.out (by go_grown)) h5.out)⟩
      · have h20' : (nop == 20) = false := by simpa using h20
        by_cases he : nop = op
        · subst he
          refine tells (q := .inl (na, 0)) (by rw [HE.out, h20']; rcases ho with rfl | rfl <;> rfl) ?_
          clear plain HE HG h20
          rcases ho with rfl | rfl
          all_goals
            go_enter Try.func11, Try.ntmps11
            go_wp2_with (first
              | (go_at_call 10; with_reducible (refine (node_as HS.out a HN.out HT.out).mono ?_); rintro e w2 ⟨rfl, b2⟩))
            go_ret2
            exact ⟨rfl, hid (end_no HS.out (Below.next b2.out (by go_grown)) _ _)⟩
        · have he' : (nop == op) = false := by simpa using he
          have h1 := plain (by rw [HE.out, h20', he']; simp)
          have H1 := hid h1
          clear h1 plain HE HG h20 he
          rcases ho with rfl | rfl
          all_goals
            go_enter Try.func11, Try.ntmps11
            go_wp2_with (first
              | (go_at_call 10; with_reducible (refine (node_as HS.out a HN.out HT.out).mono ?_); rintro e w2 ⟨rfl, b2⟩)
              | (go_at_call 29; with_reducible (refine (H1.out _ (hid (HS.out.below (Below.next b2.out (by go_grown)))) (hid (Below.next b2.out (by go_grown)))).mono ?_); rintro e w3 ⟨rfl, h3⟩))
            go_ret2
            exact ⟨rfl, h3⟩
    · have g1 : (op != 15) = true := by simp; omega
      have g2 : (op != 16) = true := by simp; omega
      have q1 : (op == 15) = false := by simp; omega
      have q2 : (op == 16) = false := by simp; omega
      have h1 := plain (by rw [HE.out, q1, q2]; rfl)
      have H1 := hid h1
      clear h1 plain HE HG ho q1 q2
      go_enter Try.func11, Try.ntmps11
      go_wp2_with (first
        | (go_at_call 10; with_reducible (refine (node_as HS.out a HN.out HT.out).mono ?_); rintro e w2 ⟨rfl, b2⟩)
        | (go_at_call 29; with_reducible (refine (H1.out _ (hid (HS.out.below (Below.next b2.out (by go_grown)))) (hid (Below.next b2.out (by go_grown)))).mono ?_); rintro e w3 ⟨rfl, h3⟩))
      go_ret2
      exact ⟨rfl, h3⟩

theorem fite_any {k : K} {w : World} {N : List Nd} {P : Nat → Prop} (s : Dg k w N P) (c a b : Int) :
    Calls Try.prog 30 #[.pointer (some ⟨k.DB, 0, none⟩), .int .i64 c, .int .i64 a, .int .i64 b] w fun e w' => e = .returned (.tuple #[.int .i64 (resI k.M N (fiteP N c a b)), .int .i64 (resE k.M N (fiteP N c a b))]) ∧ Hid (MkEnd k N P (fiteP N c a b) w w') := by
  obtain ⟨x, hx⟩ : ∃ x, wdF N c = x := ⟨_, rfl⟩
  obtain ⟨t, ht⟩ : ∃ t, alk N a b = t := ⟨_, rfl⟩
  obtain ⟨ab, hab⟩ : ∃ ab, (a == b) = ab := ⟨_, rfl⟩
  obtain ⟨c1, h1⟩ : ∃ x, isC N c 1 = x := ⟨_, rfl⟩
  obtain ⟨c0, h0⟩ : ∃ x, isC N c 0 = x := ⟨_, rfl⟩
  have HE : Hid (fiteP N c a b = if (x == 1) && t then (if ab || c1 then .inl (a, 0) else if c0 then .inl (b, 0) else iteP N c a b) else iteP N c a b) := hid (by unfold fiteP; rw [hx, ht, hab, h1, h0])
  have HS := hid s
  have HC := hid (Below.refl w.heap.size w)
  have HX := hid hx
  have HT := hid ht
  have H1 := hid h1
  have H0 := hid h0
  clear s hx ht h1 h0
  by_cases hx1 : x = 1
  · subst hx1
    cases t
    · refine tells (q := iteP N c a b) (by rw [HE.out]; rfl) ?_
      clear hab
      go_enter Try.func30, Try.ntmps30
      go_wp2_with (first
        | (go_at_call 6; with_reducible (refine (width_step (w0 := w) (by assumption) (by assumption) c HX.out).mono ?_); rintro e w2 ⟨rfl, s2, c2⟩)
        | (go_at_call 22; with_reducible (refine (alike_step (w0 := w) (by assumption) (by assumption) a b HT.out).mono ?_); rintro e w3 ⟨rfl, s3, c3⟩)
        | (go_at_call 31; with_reducible (refine (ite_any s3.out c a b).mono ?_); rintro e w4 ⟨rfl, h4⟩))
      go_ret2
      exact ⟨rfl, hid (end_behind c3.out h4.out)⟩
    · cases ab
      · cases c1
        · cases c0
          · refine tells (q := iteP N c a b) (by rw [HE.out]; rfl) ?_
            go_enter Try.func30, Try.ntmps30
            go_wp2_with (first
              | (go_at_call 6; with_reducible (refine (width_step (w0 := w) (by assumption) (by assumption) c HX.out).mono ?_); rintro e w2 ⟨rfl, s2, c2⟩)
              | (go_at_call 22; with_reducible (refine (alike_step (w0 := w) (by assumption) (by assumption) a b HT.out).mono ?_); rintro e w3 ⟨rfl, s3, c3⟩)
              | (go_at_call 47; with_reducible (refine (is_step (w0 := w) (by assumption) (by assumption) c 1 H1.out).mono ?_); rintro e w4 ⟨rfl, s4, c4⟩)
              | (go_at_call 47; with_reducible (refine (is_step (w0 := w) (by assumption) (by assumption) c 0 H0.out).mono ?_); rintro e w5 ⟨rfl, s5, c5⟩)
              | (go_at_call 31; with_reducible (refine (ite_any s5.out c a b).mono ?_); rintro e w6 ⟨rfl, h6⟩))
            go_ret2
            exact ⟨rfl, hid (end_behind c5.out h6.out)⟩
          · refine tells (q := .inl (b, 0)) (by rw [HE.out]; rfl) ?_
            go_enter Try.func30, Try.ntmps30
            go_wp2_with (first
              | (go_at_call 6; with_reducible (refine (width_step (w0 := w) (by assumption) (by assumption) c HX.out).mono ?_); rintro e w2 ⟨rfl, s2, c2⟩)
              | (go_at_call 22; with_reducible (refine (alike_step (w0 := w) (by assumption) (by assumption) a b HT.out).mono ?_); rintro e w3 ⟨rfl, s3, c3⟩)
              | (go_at_call 47; with_reducible (refine (is_step (w0 := w) (by assumption) (by assumption) c 1 H1.out).mono ?_); rintro e w4 ⟨rfl, s4, c4⟩)
              | (go_at_call 47; with_reducible (refine (is_step (w0 := w) (by assumption) (by assumption) c 0 H0.out).mono ?_); rintro e w5 ⟨rfl, s5, c5⟩))
            go_ret2
            exact ⟨rfl, hid (end_no HS.out c5.out _ _)⟩
        · refine tells (q := .inl (a, 0)) (by rw [HE.out]; rfl) ?_
          go_enter Try.func30, Try.ntmps30
          go_wp2_with (first
            | (go_at_call 6; with_reducible (refine (width_step (w0 := w) (by assumption) (by assumption) c HX.out).mono ?_); rintro e w2 ⟨rfl, s2, c2⟩)
            | (go_at_call 22; with_reducible (refine (alike_step (w0 := w) (by assumption) (by assumption) a b HT.out).mono ?_); rintro e w3 ⟨rfl, s3, c3⟩)
            | (go_at_call 47; with_reducible (refine (is_step (w0 := w) (by assumption) (by assumption) c 1 H1.out).mono ?_); rintro e w4 ⟨rfl, s4, c4⟩))
          go_ret2
          exact ⟨rfl, hid (end_no HS.out c4.out _ _)⟩
      · refine tells (q := .inl (a, 0)) (by rw [HE.out]; rfl) ?_
        go_enter Try.func30, Try.ntmps30
        go_wp2_with (first
          | (go_at_call 6; with_reducible (refine (width_step (w0 := w) (by assumption) (by assumption) c HX.out).mono ?_); rintro e w2 ⟨rfl, s2, c2⟩)
          | (go_at_call 22; with_reducible (refine (alike_step (w0 := w) (by assumption) (by assumption) a b HT.out).mono ?_); rintro e w3 ⟨rfl, s3, c3⟩))
        go_ret2
        exact ⟨rfl, hid (end_no HS.out c3.out _ _)⟩
  · have hx2 : (x != 1) = true := by simpa using hx1
    have hx3 : (x == 1) = false := by simpa using hx1
    refine tells (q := iteP N c a b) (by rw [HE.out, hx3]; rfl) ?_
    clear hab hx1 hx3
    go_enter Try.func30, Try.ntmps30
    go_wp2_with (first
      | (go_at_call 6; with_reducible (refine (width_step (w0 := w) (by assumption) (by assumption) c HX.out).mono ?_); rintro e w2 ⟨rfl, s2, c2⟩)
      | (go_at_call 31; with_reducible (refine (ite_any s2.out c a b).mono ?_); rintro e w4 ⟨rfl, h4⟩))
    go_ret2
    exact ⟨rfl, hid (end_behind c2.out h4.out)⟩

end Go.Proofs.Ytamiifgdpdfjnaa
