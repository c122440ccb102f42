/-
  The walk of AnalyzeLearns.
-/
import Derived.Test.YtikdmgemhfmipaaGreatBA
import Derived.Test.YtikdmgemhfmipaaGreatAZ
namespace Go.Proofs.YtikdmgemhfmipaaGreat
open Go.RowKit Go.Maps
set_option linter.unusedVariables false

structure Lw (k : K) (kw : WK) (w0 : World) (T : Nat) (g : G) (L : List E) (lev : Nat) (p : V) (H : List Int) (v : Value) (cls : List (List Int)) (w : World) : Prop where
  W : Wa k kw w g L lev p H
  b0 : Below w0.heap.size w0 w
  hB : kw.B = w0.heap.size
  hn : kw.n ≤ 20
  cl : Cls kw.n g cls
  tt : tot kw.n g ≤ T
  ow : OwnG w0 w v cls
  dc : Dc L

/-- Nothing was left to follow but by what the last level has brought. -/
def Nw1 (g : G) (L : List E) (lev : Nat) : Prop := lev = 0 ∨ ∃ L0 M, L = L0 ++ M ∧ Closed g L0 ∧ ∀ e ∈ M, e.g = lev

/-- What Run has told. -/
def Cf (ok : Bool) (i : Int) (g : G) (L : List E) (lev : Nat) (cls : List (List Int)) : Prop :=
  (ok = true ∧ Closed g L) ∨ ∃ (c : Nat) (cl : List Int), ok = false ∧ i = c ∧ cls[c]? = some cl ∧ (∀ y ∈ cl, valueF L y = -1) ∧ (1 ≤ lev → ∃ y ∈ cl, levelF L (vl y : Nat) = lev)

section
variable {k : K} {kw : WK} {w0 w w1 w' : World} {T : Nat} {g g' : G} {L L' : List E} {lev lev' : Nat} {p p' : V} {H H' : List Int} {v v' : Value} {cls : List (List Int)}

theorem Lw.start (o1 : Trl k w1 [] 0 noV) (b1 : Below w.heap.size w w1) (b2 : Below w1.heap.size w1 w') (s2 : St kw w' g0) {n : Nat} (hn : k.n = n) (hn2 : kw.n = n) (hB : k.B = w.heap.size) (hB2 : kw.B = w.heap.size) (h20 : n ≤ 20) : Lw k kw w 0 g0 [] 0 noV [] (.slice none 0 0) [] w' :=
  ⟨Wa.new (o1.below b2) s2 (by omega) (by omega), Below.next b1 b2, hB2, by omega, Cls.nil _, Nat.le_of_eq (tot_zero _), OwnG.nil _ _, Dc.nil⟩

theorem Lw.below (s : Lw k kw w0 T g L lev p H v cls w) (b : Below w.heap.size w w') : Lw k kw w0 T g L lev p H v cls w' :=
  ⟨s.W.below b, Below.next s.b0 b, s.hB, s.hn, s.cl, s.tt, s.ow.keep b, s.dc⟩

theorem add_law (s : Lw k kw w0 T g L lev p H v cls w) (hc : cls.length ≤ 40) (hT : T ≤ 40) {q : Nat} (hq : cls.length = q) {ao : Option Addr} {n c : Nat} {xs : List Int} (row : U.Row w0 ao n c xs) (hn : n ≤ 1000) (hx : ∀ x ∈ xs, 0 ≤ x ∧ x < 2 * (kw.n : Int)) :
    Calls Tryz.prog 8 #[.pointer (some ⟨kw.OB, 0, none⟩), .pointer (some ⟨k.OB, 0, none⟩), .slice ao n c] w fun e w' => ∃ g', e = .returned (.tuple #[.int .i64 q, .int .i64 0]) ∧ Hid (Wa k kw w' g' L lev p H) ∧ Hid (AddD kw.n g g' xs) ∧ Hid (FW kw.B w w') := by
  have h1 := s.cl.nx
  have h2 := tot_pl kw.n g
  have h3 := s.tt
  refine (add_is s.W ⟨k.OB, 0, none⟩ (row.keep s.b0) hn hx (by omega) (by omega)).mono fun e w' h => ?_
  obtain ⟨g', rfl, h4⟩ := h
  exact ⟨g', by rw [h1, hq], h4⟩

theorem Lw.fw {xs : List Int} (s : Lw k kw w0 T g L lev p H v cls w) (f : FW kw.B w w') : Below w0.heap.size w0 w' ∧ OwnG w0 w' v cls := ⟨f.be s.hB s.b0, s.ow.fw f⟩

theorem Lw.add {xs : List Int} {w2 w3 : World} (s : Lw k kw w0 T g L lev p H v cls w) (W : Wa k kw w1 g' L lev p H) (d : AddD kw.n g g' xs) (f : FW kw.B w w1) (hx : ∀ x ∈ xs, 0 ≤ x ∧ x < 2 * (kw.n : Int)) (b2 : Below w1.heap.size w1 w2) (ow : OwnG w0 w3 v' (cls ++ [xs])) (b3 : Below w0.heap.size w0 w3) (gr : w2.grownBy w3 v.ownBlock) : Lw k kw w0 (T + 1) g' L lev p H v' (cls ++ [xs]) w3 :=
  ⟨(W.below b2).cat ((s.ow.fw f).keep b2) gr, b3, s.hB, s.hn, s.cl.add d hx, by rw [d.su]; have := s.tt; omega, ow, s.dc⟩

theorem run_law (s : Lw k kw w0 T g L lev p H v cls w) (hc : cls.length ≤ 40) (hT : T ≤ 100000) (nw : Nw1 g L lev) :
    Calls Tryz.prog 9 #[.pointer (some ⟨kw.OB, 0, none⟩), .pointer (some ⟨k.OB, 0, none⟩)] w fun e w' => ∃ i ok g' L' p' H', e = .returned (.tuple #[.int .i64 i, .bool ok]) ∧ Hid (Lw k kw w0 (T + 801) g' L' lev p' H' v cls w') ∧ Hid (Cf ok i g' L' lev cls) := by
  have h1 := s.cl.nx
  have h2 := s.hn
  have h3 := s.tt
  have hm : kw.n * g.nx ≤ 20 * 40 := Nat.mul_le_mul h2 (by omega)
  refine (run_one s.W (by omega) (by omega)).mono fun e w' h => ?_
  obtain ⟨i, ok, g', L', p', rfl, V, W, S, X, F⟩ := h
  have cl' := s.cl.sm S.out.1
  refine ⟨i, ok, g', L', p', _, rfl, ⟨W.out, F.out.be s.hB s.b0, s.hB, s.hn, cl', by have := S.out.2; omega, s.ow.ft s.W.j.t F.out, s.dc.ext X.out⟩, ?_⟩
  rcases V.out with ⟨rfl, rfl, h4⟩ | ⟨c, rfl, rfl, h4, h5, h6⟩
  · exact .inl ⟨rfl, h4⟩
  · refine .inr ⟨c, g.lt c, rfl, rfl, s.cl.lt c h4, h6, fun hl => ?_⟩
    obtain ⟨M, rfl, hM⟩ := X.out
    rcases nw with e | ⟨L0, M0, rfl, n2, n3⟩
    · omega
    · have hnd := W.out.j.t.nd
      rw [List.append_assoc] at hnd h6 ⊢
      exact conf_level n2 hnd (fun e he => (List.mem_append.1 he).elim (n3 e) (fun h => (hM e h).1)) h4 h5 h6

theorem dec_law (s : Lw k kw w0 T g L lev p H v cls w) (hc : Closed g L) (l : Int) (hu : l ≤ 9223372036854775807) {b : Bool} (hm : mayF k.n L l = b) :
    Calls Tryz.prog 10 #[.pointer (some ⟨k.OB, 0, none⟩), .int .i64 l] w fun e w' => ∃ L' lev' p', e = .returned (.bool b) ∧ Hid (Lw k kw w0 T g L' lev' p' H v cls w') ∧ Hid (b = true → Nw1 g L' lev') ∧ Hid (b = false → Closed g L') := by
  refine (wa_decide s.W l hu).mono fun e w' h => ?_
  obtain ⟨b', L', lev', p', rfl, ⟨h1, h2, h3⟩, W, F⟩ := h
  obtain rfl : b' = b := h1.trans hm
  have hd : Dc L' := by
    rw [h2]
    unfold addL
    split
    · exact s.dc.dec s.W.j.t.mono.2 _
    · exact s.dc
  refine ⟨L', lev', p', rfl, ⟨W.out, F.out.be s.hB s.b0, s.hB, s.hn, s.cl, s.tt, s.ow.ft s.W.j.t F.out, hd⟩, fun hb => ?_, fun hb => ?_⟩
  · rw [hb] at h1
    refine .inr ⟨L, [⟨l.toNat, lev + 1, -1⟩], by rw [h2]; unfold addL; rw [← h1, if_pos rfl], hc, fun e he => ?_⟩
    rw [List.mem_singleton] at he
    subst he
    rw [h3]; unfold decV; rw [← h1, if_pos rfl]
  · rw [hb] at h1
    rw [h2]; unfold addL; rw [← h1, if_neg (by decide)]; exact hc

theorem Lw.weak (s : Lw k kw w0 T g L lev p H v cls w) {T' : Nat} (h : T ≤ T') : Lw k kw w0 T' g L lev p H v cls w := ⟨s.W, s.b0, s.hB, s.hn, s.cl, Nat.le_trans s.tt h, s.ow, s.dc⟩

theorem Lw.tl (s : Lw k kw w0 T g L lev p H v cls w) : Tl L cls := by
  refine ⟨fun q e he hr => ?_, s.dc⟩
  obtain ⟨c, c1, c2, c3, c4, c5⟩ := s.W.rs q e he hr
  have hcl := s.cl.lt c c2
  exact ⟨c, g.lt c, c1, hcl, c4, fun y hy hne => ⟨(s.cl.nn _ (List.mem_of_getElem? hcl) y hy).1, c5 y hy hne⟩⟩

theorem learned_law {la : Option Addr} {ln cap : Nat} (s : Lw k kw w0 T g L lev p H (.slice la ln cap) cls w) (hc : cls.length ≤ 40) (hl : ∀ c ∈ cls, c.length ≤ 40) {i : Int} (cf : Cf false i g L lev cls) (hl1 : 1 ≤ lev) :
    Calls Tryz.prog 12 #[.pointer (some ⟨k.OB, 0, none⟩), .slice la ln cap, .int .i64 i] w fun e w' => e = .returned (.bool true) ∧ Hid (Below w0.heap.size w0 w') := by
  rcases cf with ⟨h, _⟩ | ⟨c, cl, _, rfl, h1, h2, h3⟩
  · cases h
  · obtain ⟨ao, n, c', e, hn, gr⟩ := s.ow.grid s.b0
    cases e
    have hkn := s.W.j.n
    have h20 := s.hn
    have hkb := s.W.j.b
    have hB := s.hB
    have hnn := hn.out
    refine (learned_is s.W.j.t s.tl gr.out (by omega) (by omega) (fun c hc => by have := hl c hc; omega) hl1 h1 h2 (h3 hl1)).mono fun e w' h => ?_
    exact ⟨h.1, hid (s.b0.trans (h.2.out.mono (by omega)))⟩

theorem few_take {z : List (List Int)} (h : ¬ U.fewF z 40 = 0) (q : Nat) : (z.take q).length ≤ 40 ∧ ∀ c ∈ z.take q, c.length ≤ 40 := by
  have h1 := U.few_len (most := 40) h
  have h2 := U.few_short h
  exact ⟨by rw [List.length_take]; omega, fun c hc => h2 c (List.mem_of_mem_take hc)⟩
end
end Go.Proofs.YtikdmgemhfmipaaGreat

namespace Go.Proofs.YtikdmgemhfmipaaGreat
open Go.RowKit Go.Maps
set_option linter.unusedVariables false

theorem cf_yes {i : Int} {g : G} {L : List E} {lev : Nat} {cls : List (List Int)} (h : Cf true i g L lev cls) : Closed g L := by
  rcases h with ⟨_, h⟩ | ⟨c, cl, h, _⟩
  · exact h
  · cases h

theorem nw_zero (g : G) (L : List E) : Nw1 g L 0 := .inl rfl

set_option maxRecDepth 20000 in
set_option maxHeartbeats 8000000 in
theorem learns_in (n : Nat) (a1 : Option Addr) (len1 cap1 : Nat) (z1 : List (List Int)) (a2 : Option Addr) (len2 cap2 : Nat) (z2 : List Int) (w : World) (w1 : U.Grid w a1 len1 cap1 z1) (w2 : U.Row w a2 len2 cap2 z2) (hn1 : 1 ≤ n) (hn20 : n ≤ 20) (hF : ¬ U.fewF z1 40 = 0) (hl2 : len2 ≤ 30) :
    Calls Tryz.prog 3 #[.int .i64 n, .slice a1 len1 cap1, .slice a2 len2 cap2] w fun e w' => e = .returned (.bool true) ∧ Below w.heap.size w w' := by
  have HCN : Hid (cntF n = n) := hid (by simp only [cntF]; rw [if_neg (by omega)]; omega)
  have HG := hid w1
  have HR := hid w2
  have HF := hid hF
  have e1 : ¬ (n : Int) < 1 := by omega
  have e2 : ¬ (20 : Int) < n := by omega
  have e3 : (U.fewF z1 40 == 0) = false := by simpa using hF
  have e4 : ¬ (30 : Int) < len2 := by omega
  have hzl : Hid (z1.length = len1) := hid w1.1
  clear w1 w2 hF
  go_enter Tryz.func3, Tryz.ntmps3
  go_wp2_with (first
    | (go_at_call 4; with_reducible (refine (U.few_any _ _ _ _ _ _ HG.out).mono ?_); rintro e w ⟨rfl, rfl⟩)
    | (go_at_call 6; with_reducible (refine (new_is n _).mono ?_); rintro e w1 ⟨k, rfl, o1, hn, hB, b1⟩)
    | (go_at_call 7; with_reducible (refine (wnew_is n w1 w.heap.size b1.out.size).mono ?_); rintro e w2 ⟨kw, rfl, s2, hn2, hB2, b2⟩))
  have S2 := hid (Lw.start o1.out b1.out b2.out s2.out (hn.out.trans HCN.out) (hn2.out.trans HCN.out) hB.out hB2.out hn20)
  clear o1 b1 b2 s2 hn hn2 hB hB2 HCN
  go_loopw [9, 10] (fun v i wr => ∃ (q : Nat) (g : G), q ≤ len1 ∧ i = .int .i64 q ∧ Hid (Lw k kw w q g [] 0 noV [] v (z1.take q) wr)) (fun _ i _ => len1 - (intOf i).toNat)
  case atStart => exact ⟨0, g0, Nat.zero_le _, rfl, S2⟩
  case round =>
    clear S2
    obtain ⟨q, g, hq, rfl, hs⟩ := hrel
    have FT1 := hid (few_take HF.out q)
    have FT2 := hid (few_take HF.out len1)
    have hl40 : len1 ≤ 40 := by have := U.few_len (most := 40) HF.out; have := hzl.out; omega
    by_cases hlt : q < len1
    · have hlt' : (q : Int) < len1 := by omega
      obtain ⟨gb, off, ra, rm, rc, ys, rfl, hc, hy, row⟩ := HG.out.at hlt
      have hm : rm ≤ 1000 := by have := row.out.1; have := U.few_short HF.out ys (List.mem_of_getElem? hy.out); omega
      have hcw := hc
      rw [← hs.out.b0.cell (cell_lt hc)] at hcw
      by_cases hx : ∀ x ∈ ys, 0 ≤ x ∧ x < 2 * (kw.n : Int)
      · have HX := hid hx
        clear hx
        have HQ : Hid ((z1.take q).length = q) := hid (by rw [List.length_take]; have := hzl.out; omega)
        have HT1 : Hid (z1.take q ++ [ys] = z1.take (q + 1)) := hid (by rw [List.take_add_one, hy.out]; rfl)
        go_wp2_with (first
          | (go_at_call 8; with_reducible (refine (add_law hs.out FT1.out.1 (by omega) HQ.out row.out hm HX.out).mono ?_); rintro e w3 ⟨g3, rfl, W3, D3, F3⟩; have Z3 := hid (hs.out.fw (xs := ys) F3.out); have hc3 := hc; rw [← Z3.out.1.cell (cell_lt hc)] at hc3; have X3 := hid (aw_one w3 (.cells #[.slice ra rm rc] 23)))
          | (at_builtin; refine cat_cell (w0 := w) rfl (.tmp 67) (.tmp 72) rfl _ (z1.take q) ys rfl (Z3.out.2.keep X3.out) (Below.next Z3.out.1 X3.out) _ rfl ra rm rc (by simp) row.out (by have := FT1.out.1; omega) ?_; intro v4 w4 own4 b4 g4))
        go_roundw
        case rel => exact ⟨q + 1, g3, by omega, by go_num, hid (by rw [← HT1.out]; exact hs.out.add W3.out D3.out F3.out HX.out X3.out own4.out b4.out g4.out)⟩
        case measure => simp only [intOf]; omega
      · have HX := hid hx
        clear hx
        go_wp2_with (first
          | (go_at_call 8; with_reducible (refine (add_bad hs.out.W.j.s _ (row.out.keep hs.out.b0) hm HX.out).mono ?_); rintro e w3 ⟨rfl, b3⟩)
          | (go_at_call 5; with_reducible (refine (awake_is _).mono ?_); rintro e w4 ⟨rfl, b4⟩))
        go_ret
        exact ⟨rfl, Below.next (Below.next hs.out.b0 b3) b4.out⟩
    · have hge : ¬ (q : Int) < len1 := by omega
      obtain rfl : q = len1 := by omega
      have HZ : Hid (z1.take q = z1) := hid (List.take_of_length_le (by have := hzl.out; omega))
      go_wp2_with (first
        | (go_at_call 9; with_reducible (refine (run_law hs.out FT1.out.1 (by omega) (nw_zero _ _)).mono ?_); rintro e w3 ⟨i3, ok3, g3, L3, p3, H3, rfl, S3, C3⟩))
      clear hs
      obtain ⟨la, ln, lc, rfl, _, _⟩ := S3.out.ow.grid S3.out.b0
      go_loopw [13, 14, 15] (fun a b c wr => ∃ (r : Nat) (i : Int) (ok : Bool) (g : G) (L : List E) (lev : Nat) (p : V) (H : List Int), r ≤ len2 ∧ a = .int .i64 i ∧ b = .bool ok ∧ c = .int .i64 r ∧ Hid (Lw k kw w (q + 801 + r * 801) g L lev p H (.slice la ln lc) (z1.take q) wr) ∧ Hid (Cf ok i g L lev (z1.take q))) (fun _ _ c _ => len2 - (intOf c).toNat)
      case atStart => exact ⟨0, i3, ok3, g3, L3, 0, p3, H3, Nat.zero_le _, rfl, rfl, rfl, S3, C3⟩
      case round =>
        clear S3 C3
        obtain ⟨r, i, ok, g, L, lev, p, H, hr, rfl, rfl, rfl, hs, cf⟩ := hrel
        cases ok
        · have hlev : lev ≤ 1048576 := by have := hs.out.W.j.t.len; omega
          by_cases hl0 : lev = 0
          · subst hl0
            by_cases hlt2 : r < len2
            · have hlt3 : (r : Int) < len2 := by omega
              go_wp2_with (first
                | (go_at_call 11; with_reducible (refine (levels_is hs.out.W.j.t).mono ?_); rintro e w10 ⟨rfl, rfl⟩)
                | (go_at_call 5; with_reducible (refine (awake_is _).mono ?_); rintro e w4 ⟨rfl, b4⟩))
              go_ret
              exact ⟨rfl, Below.next hs.out.b0 b4.out⟩
            · have hlt3 : ¬ (r : Int) < len2 := by omega
              go_wp2_with (first
                | (go_at_call 11; with_reducible (refine (levels_is hs.out.W.j.t).mono ?_); rintro e w10 ⟨rfl, rfl⟩)
                | (go_at_call 5; with_reducible (refine (awake_is _).mono ?_); rintro e w4 ⟨rfl, b4⟩))
              go_ret
              exact ⟨rfl, Below.next hs.out.b0 b4.out⟩
          · have hlb : ((lev : Int) == 0) = false := by rw [beq_eq_false_iff_ne]; omega
            have hl1 : 1 ≤ lev := by omega
            by_cases hlt2 : r < len2
            · have hlt3 : (r : Int) < len2 := by omega
              go_wp2_with (first
                | (go_at_call 11; with_reducible (refine (levels_is hs.out.W.j.t).mono ?_); rintro e w10 ⟨rfl, rfl⟩)
                | (go_at_call 12; with_reducible (refine (learned_law hs.out FT1.out.1 FT1.out.2 cf.out hl1).mono ?_); rintro e w11 ⟨rfl, b11⟩)
                | (go_at_call 5; with_reducible (refine (awake_is _).mono ?_); rintro e w4 ⟨rfl, b4⟩))
              go_ret
              exact ⟨rfl, Below.next b11.out b4.out⟩
            · have hlt3 : ¬ (r : Int) < len2 := by omega
              go_wp2_with (first
                | (go_at_call 11; with_reducible (refine (levels_is hs.out.W.j.t).mono ?_); rintro e w10 ⟨rfl, rfl⟩)
                | (go_at_call 12; with_reducible (refine (learned_law hs.out FT1.out.1 FT1.out.2 cf.out hl1).mono ?_); rintro e w11 ⟨rfl, b11⟩)
                | (go_at_call 5; with_reducible (refine (awake_is _).mono ?_); rintro e w4 ⟨rfl, b4⟩))
              go_ret
              exact ⟨rfl, Below.next b11.out b4.out⟩
        · have HC := hid (cf_yes cf.out)
          by_cases hlt2 : r < len2
          · have hlt3 : (r : Int) < len2 := by omega
            obtain ⟨db, doff, y, rfl, hcy, hy, y0, y1⟩ := (HR.out.keep hs.out.b0).at hlt2
            cases hb : mayF k.n L y with
            | false =>
              go_wp2_with (first
                | (go_at_call 10; with_reducible (refine (dec_law hs.out HC.out _ y1 hb).mono ?_); rintro e w4 ⟨L4, lev4, p4, rfl, S4, N4, C4⟩; have C5 := hid (C4.out rfl)))
              go_roundw
              case rel => exact ⟨r + 1, i, true, g, L4, lev4, p4, H, by omega, rfl, rfl, by go_num, hid (S4.out.weak (by omega)), hid (.inl ⟨rfl, C5.out⟩)⟩
              case measure => simp only [intOf]; omega
            | true =>
              go_wp2_with (first
                | (go_at_call 10; with_reducible (refine (dec_law hs.out HC.out _ y1 hb).mono ?_); rintro e w4 ⟨L4, lev4, p4, rfl, S4, N4, C4⟩; have N5 := hid (N4.out rfl))
                | (go_at_call 9; with_reducible (refine (run_law S4.out FT1.out.1 (by omega) N5.out).mono ?_); rintro e w5 ⟨i5, ok5, g5, L5, p5, H5, rfl, S5, C5⟩))
              go_roundw
              case rel => exact ⟨r + 1, i5, ok5, g5, L5, lev4, p5, H5, by omega, rfl, rfl, by go_num, hid (S5.out.weak (by omega)), C5⟩
              case measure => simp only [intOf]; omega
          · have hlt3 : ¬ (r : Int) < len2 := by omega
            go_wp2_with (first
              | (go_at_call 5; with_reducible (refine (awake_is _).mono ?_); rintro e w4 ⟨rfl, b4⟩))
            go_ret
            exact ⟨rfl, Below.next hs.out.b0 b4.out⟩

set_option maxRecDepth 20000 in
set_option maxHeartbeats 4000000 in
theorem learns_out (a0 : Int) (a1 : Option Addr) (len1 cap1 : Nat) (z1 : List (List Int)) (a2 : Option Addr) (len2 cap2 : Nat) (w : World) (w1 : U.Grid w a1 len1 cap1 z1) (h : a0 < 1 ∨ (1 ≤ a0 ∧ 20 < a0) ∨ (1 ≤ a0 ∧ a0 ≤ 20 ∧ U.fewF z1 40 = 0) ∨ (1 ≤ a0 ∧ a0 ≤ 20 ∧ ¬ U.fewF z1 40 = 0 ∧ 30 < len2)) :
    Calls Tryz.prog 3 #[.int .i64 a0, .slice a1 len1 cap1, .slice a2 len2 cap2] w fun e w' => e = .returned (.bool true) ∧ Below w.heap.size w w' := by
  have HG := hid w1
  clear w1
  rcases h with h1 | ⟨h1, h2⟩ | ⟨h1, h2, h3⟩ | ⟨h1, h2, h3, h4⟩
  · go_enter Tryz.func3, Tryz.ntmps3
    go_wp2_with (first
      | (go_at_call 4; with_reducible (refine (U.few_any _ _ _ _ _ _ HG.out).mono ?_); rintro e w ⟨rfl, rfl⟩)
      | (go_at_call 5; with_reducible (refine (awake_is _).mono ?_); rintro e w4 ⟨rfl, b4⟩))
    go_ret
    exact ⟨rfl, b4.out⟩
  · have e1 : ¬ a0 < 1 := by omega
    go_enter Tryz.func3, Tryz.ntmps3
    go_wp2_with (first
      | (go_at_call 4; with_reducible (refine (U.few_any _ _ _ _ _ _ HG.out).mono ?_); rintro e w ⟨rfl, rfl⟩)
      | (go_at_call 5; with_reducible (refine (awake_is _).mono ?_); rintro e w4 ⟨rfl, b4⟩))
    go_ret
    exact ⟨rfl, b4.out⟩
  · have e1 : ¬ a0 < 1 := by omega
    have e2 : ¬ 20 < a0 := by omega
    have e3 : (U.fewF z1 40 == 0) = true := by simpa using h3
    clear h3
    go_enter Tryz.func3, Tryz.ntmps3
    go_wp2_with (first
      | (go_at_call 4; with_reducible (refine (U.few_any _ _ _ _ _ _ HG.out).mono ?_); rintro e w ⟨rfl, rfl⟩)
      | (go_at_call 5; with_reducible (refine (awake_is _).mono ?_); rintro e w4 ⟨rfl, b4⟩))
    go_ret
    exact ⟨rfl, b4.out⟩
  · have e1 : ¬ a0 < 1 := by omega
    have e2 : ¬ 20 < a0 := by omega
    have e3 : (U.fewF z1 40 == 0) = false := by simpa using h3
    have e4 : (30 : Int) < len2 := by omega
    clear h3
    go_enter Tryz.func3, Tryz.ntmps3
    go_wp2_with (first
      | (go_at_call 4; with_reducible (refine (U.few_any _ _ _ _ _ _ HG.out).mono ?_); rintro e w ⟨rfl, rfl⟩)
      | (go_at_call 5; with_reducible (refine (awake_is _).mono ?_); rintro e w4 ⟨rfl, b4⟩))
    go_ret
    exact ⟨rfl, b4.out⟩

theorem learns_walk (a0 : Int) (a1 : Option Addr) (len1 cap1 : Nat) (z1 : List (List Int)) (a2 : Option Addr) (len2 cap2 : Nat) (z2 : List Int) (w : World) (w1 : U.Grid w a1 len1 cap1 z1) (w2 : U.Row w a2 len2 cap2 z2) :
    Calls Tryz.prog 3 #[.int .i64 a0, .slice a1 len1 cap1, .slice a2 len2 cap2] w fun e w' => e = .returned (.bool true) ∧ Below w.heap.size w w' := by
  by_cases h1 : a0 < 1
  · exact learns_out a0 a1 len1 cap1 z1 a2 len2 cap2 w w1 (.inl h1)
  by_cases h2 : 20 < a0
  · exact learns_out a0 a1 len1 cap1 z1 a2 len2 cap2 w w1 (.inr (.inl ⟨by omega, h2⟩))
  by_cases h3 : U.fewF z1 40 = 0
  · exact learns_out a0 a1 len1 cap1 z1 a2 len2 cap2 w w1 (.inr (.inr (.inl ⟨by omega, by omega, h3⟩)))
  by_cases h4 : 30 < len2
  · exact learns_out a0 a1 len1 cap1 z1 a2 len2 cap2 w w1 (.inr (.inr (.inr ⟨by omega, by omega, h3, h4⟩)))
  obtain ⟨n, rfl⟩ : ∃ n : Nat, a0 = n := ⟨a0.toNat, by omega⟩
  exact learns_in n a1 len1 cap1 z1 a2 len2 cap2 z2 w w1 w2 (by omega) (by omega) h3 (by omega)
end Go.Proofs.YtikdmgemhfmipaaGreat
