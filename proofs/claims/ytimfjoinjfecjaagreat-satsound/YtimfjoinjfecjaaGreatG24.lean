/-
  meet: what a trail has lost, and what is new.
  Run: what follows is assigned, or a clause does not hold.
-/
import Derived.Test.YtimfjoinjfecjaaGreatG23

namespace Go.Proofs.YtimfjoinjfecjaaGreat
open Go.RowKit Go.Maps
set_option linter.unusedVariables false

/-- Those that leaned on what is lost wait. -/
structure LoseI (n : Nat) (g g1 : G) (K : List Int) (r : Nat) : Prop where
  sm : Same g g1
  ea : g1.a = g.a
  eb : g1.b = g.b
  ef : g1.fr = g.fr
  ep : g1.pl = g.pl
  ed : g1.dn = g.dn
  lo : ∀ l, l < 2 * n → g1.P l = g.P l
  ln : ∀ v, v < n → ∀ i ∈ g.P (2 * n + v), i ∈ g1.P (2 * n + v) ∨ i ∈ g1.P (3 * n)
  ls : ∀ (q : Nat) (x : Int), q < r → K[q]? = some x → ∀ i ∈ g.P (2 * n + vl x), i ∈ g1.P (3 * n)
  wa : ∀ i ∈ g.P (3 * n), i ∈ g1.P (3 * n)
  su : tot n g1 = tot n g

theorem LoseI.start (n : Nat) (g : G) (K : List Int) : LoseI n g g K 0 :=
  ⟨Same.refl g, rfl, rfl, rfl, rfl, rfl, fun _ _ => rfl, fun _ _ _ h => .inl h, fun q x h => by omega, fun _ h => h, rfl⟩

theorem LoseI.next {n : Nat} {g g1 : G} {K : List Int} {r : Nat} {x : Int} (h : LoseI n g g1 K r) (hx : K[r]? = some x) (hv : vl x < n) (v1 v2 : Value) :
    LoseI n g ((g1.slot (3 * n) (g1.P (3 * n) ++ g1.P (2 * n + vl x)) v1).slot (2 * n + vl x) [] v2) K (r + 1) := by
  have e3 : ((g1.slot (3 * n) (g1.P (3 * n) ++ g1.P (2 * n + vl x)) v1).slot (2 * n + vl x) [] v2).P (3 * n) = g1.P (3 * n) ++ g1.P (2 * n + vl x) := by
    show up (up g1.P (3 * n) _) (2 * n + vl x) _ (3 * n) = _
    rw [up_ne _ _ (by omega), up_same]
  have el : ∀ u, u < n → u ≠ vl x → ((g1.slot (3 * n) (g1.P (3 * n) ++ g1.P (2 * n + vl x)) v1).slot (2 * n + vl x) [] v2).P (2 * n + u) = g1.P (2 * n + u) := fun u hu hne => by
    show up (up g1.P (3 * n) _) (2 * n + vl x) _ (2 * n + u) = _
    rw [up_ne _ _ (by omega), up_ne _ _ (by omega)]
  refine ⟨h.sm.trans ⟨rfl, rfl, rfl, rfl, rfl, rfl, rfl, rfl⟩, h.ea, h.eb, h.ef, h.ep, h.ed, fun l hl => ?_, fun u hu i hi => ?_, fun q y hq hy i hi => ?_, fun i hi => ?_, ?_⟩
  · rw [← h.lo l hl]
    show up (up g1.P (3 * n) _) (2 * n + vl x) _ l = _
    rw [up_ne _ _ (by omega), up_ne _ _ (by omega)]
  · rw [e3]
    rcases h.ln u hu i hi with q | q
    · by_cases e : u = vl x
      · subst e; exact .inr (List.mem_append.2 (.inr q))
      · rw [el u hu e]; exact .inl q
    · exact .inr (List.mem_append.2 (.inl q))
  · rw [e3]
    by_cases e : q = r
    · subst e
      rw [hx] at hy; cases hy
      rcases h.ln _ hv i hi with q | q
      · exact List.mem_append.2 (.inr q)
      · exact List.mem_append.2 (.inl q)
    · exact List.mem_append.2 (.inl (h.ls q y (by omega) hy i hi))
  · rw [e3]; exact List.mem_append.2 (.inl (h.wa i hi))
  · have h1 := sum_slot (g := g1.slot (3 * n) (g1.P (3 * n) ++ g1.P (2 * n + vl x)) v1) hv [] v2
    have h2 : sumL n (g1.slot (3 * n) (g1.P (3 * n) ++ g1.P (2 * n + vl x)) v1).P = sumL n g1.P := sum_other (.inr (Nat.le_refl _)) _ v1
    have h3 : (g1.slot (3 * n) (g1.P (3 * n) ++ g1.P (2 * n + vl x)) v1).P (2 * n + vl x) = g1.P (2 * n + vl x) := up_ne _ _ (by omega)
    rw [h2, h3] at h1
    have h4 := h.su
    unfold tot at h4 ⊢
    rw [e3, List.length_append]
    simp only [List.length_nil] at h1
    omega

theorem take_at {α : Type} {A B : List α} {q r : Nat} (h : A.take q = B.take q) (hr : r < q) : A[r]? = B[r]? := by
  have := congrArg (fun l => l[r]?) h
  simpa [List.getElem?_take_of_lt hr] using this

theorem Inv.meet {n : Nat} {g g1 : G} {H N : List Int} {q : Nat} {f : Nat → Int} (iv : Inv n g H (fun _ => g.dn) (fun i => i ∈ g.P (3 * n))) (h : LoseI n g g1 (H.drop q) (H.length - q)) (hq : q ≤ H.length) (hk : H.take q = N.take q) (hf : ∀ (r : Nat) (x : Int), N[r]? = some x → f (vl x) = r) {d : Nat} (hd : d ≤ g.dn) (hd2 : d ≤ q) :
    Inv n { g1 with pl := f, dn := d } N (fun _ => d) (fun i => i ∈ g1.P (3 * n)) := by
  have hrest : ∀ (r : Nat) (x : Int), q ≤ r → H[r]? = some x → ∀ i ∈ g.P (2 * n + vl x), i ∈ g1.P (3 * n) := fun r x hr hx i hi => by
    have hl := (List.getElem?_eq_some_iff.1 hx).1
    refine h.ls (r - q) x (by omega) ?_ i hi
    rw [List.getElem?_drop, show q + (r - q) = r by omega]; exact hx
  refine ⟨fun i hi hgi => ?_, fun i hi hgi => ?_, fun i hi hgi => ?_, fun l hl i hi hgi => ?_, fun l hl => ?_, hf, fun i hi hgi => ?_⟩
  · change i < g1.nx at hi; change g1.gn i = false at hgi
    show ∀ x ∈ g1.lt i, _
    rw [h.sm.lt]
    rw [h.sm.nx] at hi; rw [h.sm.gn] at hgi
    exact iv.rg i hi hgi
  · change i < g1.nx at hi; change g1.gn i = false at hgi
    show g1.fr i < (g1.lt i).length ∨ g1.lt i = []
    rw [h.sm.lt, h.ef]
    rw [h.sm.nx] at hi; rw [h.sm.gn] at hgi
    exact iv.fr i hi hgi
  · change i < g1.nx at hi; change g1.gn i = false at hgi
    rw [h.sm.nx] at hi; rw [h.sm.gn] at hgi
    have := iv.wt i hi hgi
    have rg := iv.rg i hi hgi
    unfold WtOk at this ⊢
    show (g1.a i = -1 ∧ g1.b i = -1) ∨ (0 ≤ g1.a i ∧ 0 ≤ g1.b i ∧ g1.a i ≠ g1.b i ∧ g1.a i ∈ g1.lt i ∧ g1.b i ∈ g1.lt i ∧ i ∈ g1.P (g1.a i).toNat ∧ i ∈ g1.P (g1.b i).toNat)
    rw [h.ea, h.eb, h.sm.lt]
    rcases this with q1 | ⟨q1, q2, q3, q4, q5, q6, q7⟩
    · exact .inl q1
    · have r1 := rg _ q4
      have r2 := rg _ q5
      exact .inr ⟨q1, q2, q3, q4, q5, by rw [h.lo _ (by omega)]; exact q6, by rw [h.lo _ (by omega)]; exact q7⟩
  · change i ∈ g1.P l at hi; change g1.gn i = false at hgi
    show g1.a i = l ∨ g1.b i = l
    rw [h.ea, h.eb]
    rw [h.lo l hl] at hi; rw [h.sm.gn] at hgi
    exact iv.sd l hl i hi hgi
  · show (g1.P l).Nodup
    rw [h.lo l hl]; exact iv.nd l hl
  · change i < g1.nx at hi; change g1.gn i = false at hgi
    rw [h.sm.nx] at hi; rw [h.sm.gn] at hgi
    by_cases hw : i ∈ g1.P (3 * n)
    · exact .inl hw
    · refine .inr ?_
      have rg := iv.rg i hi hgi
      rcases iv.ok i hi hgi with c | ⟨c1, x, hx, r, hr, hp⟩ | ⟨c1, c2, c3⟩
      · exact absurd (h.wa i c) hw
      · have hr2 : r < q := by
          by_cases e : r < q
          · exact e
          · exact absurd (hrest r x (by omega) hr i hp) hw
        have hp2 : i ∈ g1.P (2 * n + vl x) := (h.ln _ (vl_lt (rg x hx)) i hp).elim id (fun c => absurd c hw)
        exact .inl ⟨by show g1.a i = -1; rw [h.ea]; exact c1, x, by show x ∈ g1.lt i; rw [h.sm.lt]; exact hx, r, by rw [← take_at hk hr2]; exact hr, hp2⟩
      · have hwt : g.a i ∈ g.lt i ∧ g.b i ∈ g.lt i := by
          rcases iv.wt i hi hgi with q1 | ⟨q1, q2, q3, q4, q5, _⟩
          · exact absurd q1.1 c1
          · exact ⟨q4, q5⟩
        have key : ∀ a b : Int, vl b < n → Hf n g.P H g.dn i a b → Hf n g1.P N d i a b := fun a b hb hh r hr e => by
          have e2 : H[r]? = some (U.notF a) := by rw [take_at hk (by omega)]; exact e
          obtain ⟨s, s1, s2⟩ := hh r (by omega) e2
          by_cases hs : s < q
          · refine ⟨s, by rw [← take_at hk hs]; exact s1, s2.elim .inl (fun c => .inr ?_)⟩
            exact (h.ln _ hb i c).elim id (fun c => absurd c hw)
          · rcases s2 with s2 | s2
            · omega
            · exact absurd (hrest s b (by omega) s1 i s2) hw
        refine .inr ⟨by show g1.a i ≠ -1; rw [h.ea]; exact c1, ?_, ?_⟩
        · show Hf n g1.P N d i (g1.a i) (g1.b i)
          rw [h.ea, h.eb]; exact key _ _ (vl_lt (rg _ hwt.2)) c2
        · show Hf n g1.P N d i (g1.b i) (g1.a i)
          rw [h.ea, h.eb]; exact key _ _ (vl_lt (rg _ hwt.1)) c3

section
variable {k : K} {kw : WK} {w : World} {g : G} {L : List E} {lev : Nat} {p : V} {H : List Int}

def MeetEnd (k : K) (kw : WK) (g : G) (L : List E) (lev : Nat) (p : V) (w w' : World) : Prop :=
  ∃ g', J k kw w' g' L lev p ∧ Same g g' ∧ Inv kw.n g' (litsF L) (fun _ => g'.dn) (fun i => i ∈ g'.P (3 * kw.n)) ∧ g'.dn ≤ L.length ∧ tot kw.n g' = tot kw.n g ∧ FW kw.B w w'

/-- Places are told, so far. -/
def PutI (N : List Int) (g1 g2 : G) (m : Nat) : Prop := ∃ f, g2 = { g1 with pl := f } ∧ ∀ (r : Nat) (x : Int), r < m → N[r]? = some x → f (vl x) = r

theorem put_at (s : St kw w g) (m u : Nat) (hm : m / 2 = u) (h : u < kw.n) (z : Int) (q : Nat) (hz : z = q) : Calls Tryz.prog 76 #[.pointer (some ⟨kw.OB, 0, none⟩), .int .i64 m, .int .i64 z] w fun e w' => e = .returned (.tuple #[]) ∧ Hid (St kw w' (g.place u q) ∧ FW kw.B w w') := by
  subst hz; exact put_is s m u hm h q

theorem min_is (W : World) (a b : Nat) : (Builtin.min_ #[3, 3] 3 #[.int .i64 a, .int .i64 b]).run Tryz.prog W = .ok (.int .i64 ((min a b : Nat) : Int)) W := by
  by_cases h : a ≤ b
  · rw [Nat.min_eq_left h]; exact min_le W (by omega)
  · rw [Nat.min_eq_right (by omega)]; exact min_gt W (by omega)

theorem AlEnd.out {H N : List Int} {w w' : World} {e : Ending} (h : AlEnd H N w e w') : ∃ q : Nat, e = .returned (.int .i64 q) ∧ Hid (q ≤ H.length ∧ q ≤ N.length ∧ H.take q = N.take q) ∧ Hid (Below w.heap.size w w') := h

theorem PutI.next {N : List Int} {g1 g2 : G} {m : Nat} {x : Int} (h : PutI N g1 g2 m) (hx : N[m]? = some x) (hd : ∀ (r : Nat) (y : Int), r < m → N[r]? = some y → vl y ≠ vl x) : PutI N g1 (g2.place (vl x) m) (m + 1) := by
  obtain ⟨f, rfl, hf⟩ := h
  refine ⟨up f (vl x) m, rfl, fun r y hr hy => ?_⟩
  by_cases e : r = m
  · subst e; rw [hx] at hy; cases hy; exact up_same _ _ _
  · rw [up_ne _ _ (hd r y (by omega) hy)]; exact hf r y (by omega) hy

theorem lits_vl {L : List E} (h : ND L) {r m : Nat} {x y : Int} (hr : (litsF L)[r]? = some y) (hm : (litsF L)[m]? = some x) (hne : r ≠ m) : vl y ≠ vl x := by
  obtain ⟨e, he, rfl⟩ := lits_at.1 hr
  obtain ⟨e', he', rfl⟩ := lits_at.1 hm
  intro c
  refine hne (nd_one h he he' ?_)
  unfold vl at c
  unfold vr
  omega

set_option maxHeartbeats 4000000 in
theorem meet_is (j : J k kw w g L lev p) (iv : Inv kw.n g H (fun _ => g.dn) (fun i => i ∈ g.P (3 * kw.n))) (ht : Told k p w g.hv H) {ao : Option Addr} {n : Nat} (hv : g.hv = .slice ao n n) (hH : ∀ x ∈ H, x < 2 * kw.n) (hn : n ≤ 10000000000000) (hsu : tot kw.n g ≤ 400000000000) :
    Calls Tryz.prog 47 #[.pointer (some ⟨kw.OB, 0, none⟩), .pointer (some ⟨k.OB, 0, none⟩)] w fun e w' => e = .returned (.tuple #[]) ∧ MeetEnd k kw g L lev p w w' := by
  have c5 := j.s.c5
  rw [hv] at c5 ht
  have hnH : H.length = n := by obtain ⟨_, _, _, e, h, _⟩ := ht; cases e; exact h
  have hN := j.t.told
  have hlen := j.t.len
  have h0 : ∀ b, litA p = some ⟨b, 0, none⟩ → ∃ cur, w.heap[b]? = some (.cells cur 3 (0, 0)) := fun b hb => by
    obtain ⟨F, S, s, _⟩ := j.t
    rcases s.rl with ⟨h1, _⟩ | ⟨b', cap, cur, h1, _, h3, _⟩
    · unfold litA at hb; rw [h1] at hb; cases hb
    · unfold litA at hb; rw [h1] at hb; cases hb; exact ⟨cur, h3⟩
  have hL : L.length ≤ 10000000000000 := by omega
  have hL2 : L.length ≤ 1048576 := by omega
  have hnn := j.n
  have hkn := j.s.l.hn
  have HJ := hid j
  have HI := hid iv
  have HT := hid ht
  have HNT := hid hN
  have H0 := hid h0
  have HH := hid hH
  have HLH := hid hnH
  have HV := hid hv
  obtain ⟨bo, hbo⟩ : ∃ bo, litA p = bo := ⟨_, rfl⟩
  rw [hbo] at HNT H0
  have HBO := hid hbo
  obtain ⟨N, hNL⟩ : ∃ N, L.length = N := ⟨_, rfl⟩
  rw [hNL] at HNT hL hL2
  have HLL := hid hNL
  clear j iv ht hN h0 hH hnH hbo hlen hv hNL
  go_enter Tryz.func47, Tryz.ntmps47
  go_upto_region 2 with (first
    | (go_at_call 50; with_reducible (refine (lits_ad HJ.out.t HLL.out HBO.out).mono ?_); rintro e w ⟨rfl, rfl⟩)
    | (go_at_call 74; with_reducible (refine (alike_is HT.out HNT.out hn hL H0.out).mono ?_); intro e w1 hal; have hal2 := AlEnd.out hal; obtain ⟨q, rfl, hq, b1⟩ := hal2))
  have J1 := hid (HJ.out.below b1.out)
  have T1 := hid (HT.out.ft (FT.below (B := 0) b1.out))
  have NT1 := hid (HNT.out.ft (FT.below (B := 0) b1.out))
  have hqn : q ≤ n := by rw [← HLH.out]; exact hq.out.1
  have hqN : q ≤ N := by have := hq.out.2.1; rw [litsF_len, HLL.out] at this; exact this
  have hq1 : (q : Int) ≤ n := by omega
  have hq2 : (q : Int) ≤ N := by omega
  have c5' := J1.out.s.c5
  rw [show g.hv = .slice ao n n from HV.out] at c5'
  have T0 := HT
  have NT0 := HNT
  clear c5 HT HNT H0
  go_cut [23, 24, 25] from 10 to 57 (fun s l i wx => ∃ a c, s = .slice a (n - q) c ∧ l = .int .i64 ((n - q : Nat) : Int) ∧ i = .int .i64 0 ∧ Hid (q < n → ∃ b, ao = some ⟨b, 0, none⟩ ∧ a = some ⟨b, q, none⟩) ∧ wx = w1)
  case first =>
    by_cases hz : q = n
    · have hzz : Hid (q < n → ∃ b, ao = some ⟨b, 0, none⟩ ∧ ao = some ⟨b, q, none⟩) := hid (fun h => by omega)
      subst hz
      cases ao with
      | none =>
        go_wp2
        go_meet
        exact ⟨none, 0, by simp, by simp, rfl, hid (fun h => by omega), rfl⟩
      | some a0 =>
        go_wp2
        go_meet
        exact ⟨some a0, 0, by simp, by simp, rfl, hid (fun h => by omega), rfl⟩
    · obtain ⟨b, y, e, _⟩ := T1.out.at (q := q) (by omega)
      subst e
      have hzz : ¬ n = q := fun e => hz e.symm
      go_wp2
      go_meet
      exact ⟨some ⟨b, q, none⟩, n - q, by simp, by simp, rfl, hid (fun _ => ⟨b, rfl, rfl⟩), rfl⟩
  case rest =>
    obtain ⟨a1, ca1, rfl, rfl, rfl, ha1, rfl⟩ := hcut
    go_wp2
    go_loopw [7, 25] (fun _ i wr => ∃ (r : Nat) (g1 : G), r ≤ n - q ∧ i = .int .i64 r ∧ Hid (LoseI kw.n g g1 (H.drop q) r) ∧ Hid (St kw wr g1) ∧ Hid (FW kw.B w wr)) (fun _ i _ => n - q - (intOf i).toNat)
    case atStart => exact ⟨0, g, Nat.zero_le _, rfl, hid (LoseI.start _ _ _), hid J1.out.s, hid (FW.below b1.out)⟩
    case round =>
      clear c5'
      obtain ⟨r, g1, hr, rfl, hl, hs, hfw⟩ := hrel
      by_cases hlt : r < n - q
      · obtain ⟨b, rfl, rfl⟩ := ha1.out (by omega)
        have TR := hid (T0.out.ft (FT.fw hfw.out) : Told k p wr (.slice (some ⟨b, 0, none⟩) n n) H)
        obtain ⟨b2, y, e, hc, hy, _, y0, y1⟩ := TR.out.at (q := q + r) (by omega)
        cases e
        have hlt' : (r : Int) < ((n - q : Nat) : Int) := by omega
        obtain ⟨m, rfl⟩ := Int.eq_ofNat_of_zero_le y0
        have hmn := HH.out _ (List.mem_of_getElem? hy.out)
        have hvl : vl (m : Int) = m / 2 := by unfold vl; omega
        have hun : m / 2 < kw.n := by omega
        have HX : Hid ((H.drop q)[r]? = some (m : Int)) := hid (by rw [List.getElem?_drop]; exact hy.out)
        have hlen : (g1.P (3 * kw.n)).length + (g1.P (2 * kw.n + m / 2)).length ≤ 1000000000000 := by
          have h1 := sum_le (P := g1.P) hun
          have h2 := hl.out.su
          unfold tot at h2 hsu
          omega
        clear hy y0 hmn
        go_wp2_with (go_at_call 75; with_reducible (refine (lose_is hs.out m (m / 2) rfl hun hlen).mono ?_); rintro e w3 ⟨rfl, hle⟩)
        go_roundw
        case rel =>
          obtain ⟨v1, v2, s3, f3⟩ := hle
          have hn2 := hl.out.next HX.out (by rw [hvl]; exact hun) v1 v2
          rw [hvl] at hn2
          exact ⟨r + 1, _, by omega, by go_num, hid hn2, hid s3, hid (hfw.out.trans f3)⟩
        case measure => simp only [intOf]; omega
      · have hre : r = n - q := by omega
        have HL : Hid (LoseI kw.n g g1 (H.drop q) (H.length - q)) := hid (by rw [HLH.out, ← hre]; exact hl.out)
        have hlt' : ¬ (r : Int) < ((n - q : Nat) : Int) := by omega
        have hltd : decide (r < n - q) = false := by simpa using hlt
        have J2 : Hid (J k kw wr g1 L lev p) := hid (HJ.out.fw hfw.out hs.out hl.out.sm.nx hl.out.sm.gn hl.out.sm.lv hl.out.sm.lt)
        have NT2 := hid (NT0.out.ft (FT.fw hfw.out))
        clear hl hre T1 NT1 J1
        go_upto_region 7 with fail
        go_cut [35, 36, 37] from 10 to 57 (fun s l i wx => ∃ a c, s = .slice a (N - q) c ∧ l = .int .i64 ((N - q : Nat) : Int) ∧ i = .int .i64 0 ∧ Hid (q < N → ∃ b, bo = some ⟨b, 0, none⟩ ∧ a = some ⟨b, q, none⟩) ∧ wx = wr)
        case first =>
          by_cases hz : q = N
          · have hzz : Hid (q < N → ∃ b, bo = some ⟨b, 0, none⟩ ∧ bo = some ⟨b, q, none⟩) := hid (fun h => by omega)
            subst hz
            cases bo with
            | none =>
              go_wp2
              go_meet
              exact ⟨none, 0, by simp, by simp, rfl, hid (fun h => by omega), rfl⟩
            | some a0 =>
              go_wp2
              go_meet
              exact ⟨some a0, 0, by simp, by simp, rfl, hid (fun h => by omega), rfl⟩
          · obtain ⟨b, y, e, _⟩ := NT2.out.at (q := q) (by omega)
            subst e
            have hzz : ¬ N = q := fun e => hz e.symm
            go_wp2
            go_meet
            exact ⟨some ⟨b, q, none⟩, N - q, by simp, by simp, rfl, hid (fun _ => ⟨b, rfl, rfl⟩), rfl⟩
        case rest =>
          obtain ⟨a2, ca2, rfl, rfl, rfl, ha2, rfl⟩ := hcut
          have P0 : Hid (PutI (litsF L) g1 g1 (q + 0)) := hid ⟨g1.pl, rfl, fun r' x hr' hx => by
            rw [Nat.add_zero] at hr'
            rw [HL.out.ep]
            exact HI.out.pl r' x (by rw [take_at hq.out.2.2 hr']; exact hx)⟩
          go_wp2
          go_loopw [8, 9, 37] (fun _ _ i wx => ∃ (r : Nat) (g2 : G), r ≤ N - q ∧ i = .int .i64 r ∧ Hid (PutI (litsF L) g1 g2 (q + r)) ∧ Hid (St kw wx g2) ∧ Hid (FW kw.B w wx)) (fun _ _ i _ => N - q - (intOf i).toNat)
          case atStart => exact ⟨0, g1, Nat.zero_le _, rfl, P0, hs, hfw⟩
          case round =>
            clear P0 hs
            obtain ⟨r2, g2, hr2, rfl, hp2, hs2, hf2⟩ := hrel
            by_cases hlt2 : r2 < N - q
            · obtain ⟨b, rfl, rfl⟩ := ha2.out (by omega)
              have TR := hid (NT0.out.ft (FT.fw hf2.out))
              obtain ⟨b2, y, e, hc, hy, _, y0, y1⟩ := TR.out.at (q := q + r2) (by omega)
              cases e
              have hlt2' : (r2 : Int) < ((N - q : Nat) : Int) := by omega
              obtain ⟨m, rfl⟩ := Int.eq_ofNat_of_zero_le y0
              have hvl : vl (m : Int) = m / 2 := by unfold vl; omega
              have hun : m / 2 < kw.n := by
                obtain ⟨ee, hee, hem⟩ := lits_at.1 hy.out
                have := HJ.out.t.lits_lt ee (List.mem_of_getElem? hee)
                unfold vr at this
                omega
              have HP : Hid (PutI (litsF L) g1 (g2.place (m / 2) ((q + r2 : Nat) : Int)) (q + r2 + 1)) := hid (by
                have := hp2.out.next hy.out (fun r' y' hr' hy' => lits_vl HJ.out.t.nd hy' hy.out (by omega))
                rw [hvl] at this
                exact this)
              have hadd : (q : Int) + r2 ≤ 9223372036854775807 := by omega
              have HZ : Hid ((q : Int) + r2 = ((q + r2 : Nat) : Int)) := hid (by omega)
              clear hy y0
              go_wp2_with (go_at_call 76; with_reducible (refine (put_at hs2.out m (m / 2) rfl hun _ (q + r2) HZ.out).mono ?_); rintro e w3 ⟨rfl, h3⟩)
              go_roundw
              case rel => exact ⟨r2 + 1, _, by omega, by go_num, hid (by rw [← Nat.add_assoc]; exact HP.out), hid h3.out.1, hid (hf2.out.trans h3.out.2)⟩
              case measure => simp only [intOf]; omega
            · have hre : r2 = N - q := by omega
              have hlt2' : ¬ (r2 : Int) < ((N - q : Nat) : Int) := by omega
              have hltd2 : decide (r2 < N - q) = false := by simpa using hlt2
              obtain ⟨f, rfl, hf⟩ := hp2.out
              have hf' : ∀ (r' : Nat) (x : Int), (litsF L)[r']? = some x → f (vl x) = r' := fun r' x hx => hf r' x (by
                have := (List.getElem?_eq_some_iff.1 hx).1
                rw [litsF_len, HLL.out] at this
                omega) hx
              have c6 := hs2.out.c6
              have f6 := hs2.out.of 6
              have hdn : ({ g1 with pl := f } : G).dn = g.dn := HL.out.ed
              rw [hdn] at c6
              have mn := fun W => min_is W g.dn q
              have s9 := hid (hs2.out.putd (min g.dn q))
              have F9 : Hid (FW kw.B wr (wr.setCell ⟨kw.OB, 6, none⟩ (.int .i64 ((min g.dn q : Nat) : Int)))) := hid (FW.grown (grown_set wr ⟨kw.OB, 6, none⟩ _) (fun i T e t => by cases e; rw [t.one ⟨_, _, hs2.out.c.ob⟩]; simp [Wt]) (fun i e => by cases e; exact hs2.out.c.lo.1))
              have HE : Hid (MeetEnd k kw g L lev p w (wr.setCell ⟨kw.OB, 6, none⟩ (.int .i64 ((min g.dn q : Nat) : Int)))) := hid (by
                refine ⟨_, HJ.out.fw (hf2.out.trans F9.out) s9.out HL.out.sm.nx HL.out.sm.gn HL.out.sm.lv HL.out.sm.lt, HL.out.sm.trans ⟨rfl, rfl, rfl, rfl, rfl, rfl, rfl, rfl⟩, HI.out.meet HL.out hq.out.1 hq.out.2.2 hf' (Nat.min_le_left _ _) (Nat.min_le_right _ _), ?_, HL.out.su, hf2.out.trans F9.out⟩
                show min g.dn q ≤ L.length
                rw [HLL.out]
                exact Nat.le_trans (Nat.min_le_right _ _) hqN)
              generalize hD : (min g.dn q : Nat) = D at *
              clear hre hlt2 hs2 s9 F9 hf hf' hdn hD
              go_wp2
              go_end0
              exact ⟨rfl, HE.out⟩
end

end Go.Proofs.YtimfjoinjfecjaaGreat

namespace Go.Proofs.YtimfjoinjfecjaaGreat
open Go.RowKit Go.Maps
set_option linter.unusedVariables false

/-- The clauses are those that they were. -/
structure Sm0 (g g' : G) : Prop where
  nx : g'.nx = g.nx
  cb : g'.cb = g.cb
  lt : g'.lt = g.lt
  lv : g'.lv = g.lv
  gn : g'.gn = g.gn
  mp : g'.mp = g.mp
  rm : g'.rm = g.rm

theorem Same.sm {g g' : G} (h : Same g g') : Sm0 g g' := ⟨h.nx, h.cb, h.lt, h.lv, h.gn, h.mp, h.rm⟩
theorem Sm0.trans {a b c : G} (h : Sm0 a b) (k : Sm0 b c) : Sm0 a c := ⟨k.nx.trans h.nx, k.cb.trans h.cb, k.lt.trans h.lt, k.lv.trans h.lv, k.gn.trans h.gn, k.mp.trans h.mp, k.rm.trans h.rm⟩

/-- No clause is left by which something follows. -/
def Closed (g : G) (L : List E) : Prop := ∀ i, i < g.nx → g.gn i = false → (∃ x ∈ g.lt i, valueF L x = 1) ∨ ∃ x ∈ g.lt i, ∃ y ∈ g.lt i, x ≠ y ∧ valueF L x = 0 ∧ valueF L y = 0

theorem Inv.closed {n : Nat} {g : G} {L : List E} {d : Nat} (iv : Inv n g (litsF L) (fun _ => d) (fun _ => False)) (hd : d = L.length) (hnd : ND L) : Closed g L := by
  intro i hi hg
  rcases iv.ok i hi hg with c | ⟨c1, x, hx, q, hq, _⟩ | ⟨c1, c2, c3⟩
  · exact c.elim
  · exact .inl ⟨x, hx, val_pos hnd hq⟩
  · rcases iv.wt i hi hg with q | ⟨q1, q2, q3, q4, q5, _⟩
    · exact absurd q.1 c1
    · have lt : ∀ (r : Nat) (y : Int), (litsF L)[r]? = some y → r < d := fun r y h => by
        have := (List.getElem?_eq_some_iff.1 h).1
        rw [litsF_len] at this; omega
      rcases val_cases (L := L) (g.a i) with v1 | ⟨v1, _⟩ | ⟨v1, _, r, hr⟩
      · rcases val_cases (L := L) (g.b i) with v2 | ⟨v2, _⟩ | ⟨v2, _, r, hr⟩
        · exact .inr ⟨_, q4, _, q5, q3, v1, v2⟩
        · exact .inl ⟨_, q5, v2⟩
        · obtain ⟨s, hs, _⟩ := c3 r (lt r _ hr) hr
          exact .inl ⟨_, q4, val_pos hnd hs⟩
      · exact .inl ⟨_, q4, v1⟩
      · obtain ⟨s, hs, _⟩ := c2 r (lt r _ hr) hr
        exact .inl ⟨_, q5, val_pos hnd hs⟩

/-- What holds between the calls. -/
structure Wa (k : K) (kw : WK) (w : World) (g : G) (L : List E) (lev : Nat) (p : V) (H : List Int) : Prop where
  j : J k kw w g L lev p
  iv : Inv kw.n g H (fun _ => g.dn) (fun i => i ∈ g.P (3 * kw.n))
  ht : Told k p w g.hv H
  hf : ∃ ao n, g.hv = .slice ao n n
  hH : ∀ x ∈ H, x < 2 * kw.n
  hl : H.length ≤ 1048576
  rs : Rs g L

def RunEnd (k : K) (kw : WK) (g : G) (L : List E) (lev : Nat) (p : V) (w : World) (e : Ending) (w' : World) : Prop :=
  ∃ g' L' p', Wa k kw w' g' L' lev p' (litsF L') ∧ Sm0 g g' ∧ Ext L L' lev ∧ tot kw.n g' ≤ tot kw.n g + (kw.n * g.nx + 1) ∧ FT k kw.B p p' w w' ∧ (∀ j, g'.hv.ownBlock = some j → Mine k p' j) ∧
    ((e = .returned (.tuple #[.int .i64 (-1), .bool true]) ∧ Closed g' L') ∨
     ∃ c : Nat, e = .returned (.tuple #[.int .i64 c, .bool false]) ∧ c < g.nx ∧ g.gn c = false ∧ ∀ y ∈ g.lt c, valueF L' y = -1)

theorem litA_mine {k : K} {p : V} {n m j : Nat} (h : (Value.slice (litA p) n m).ownBlock = some j) : Mine k p j := by
  refine .inr (.inr (.inl ?_))
  unfold litA at h
  cases e : p.l with
  | slice ao a b => rw [e] at h; cases ao with
    | none => simp [Value.ownBlock] at h
    | some ad => simpa [Value.ownBlock] using h
  | _ => rw [e] at h; simp [Value.ownBlock] at h

section
variable {k : K} {kw : WK} {w w1 : World} {g : G} {L : List E} {lev : Nat} {p : V} {H : List Int}

theorem run_none1 (t : Option Addr) (w : World) : Calls Tryz.prog 31 #[.pointer none, .pointer t] w fun e w' => e = .returned (.tuple #[.int .i64 (-1), .bool true]) ∧ w' = w := by
  go_enter Tryz.func31, Tryz.ntmps31
  go_wp2
  go_ret2
  exact ⟨rfl, rfl⟩

theorem run_none2 (a : Addr) (w : World) : Calls Tryz.prog 31 #[.pointer (some a), .pointer none] w fun e w' => e = .returned (.tuple #[.int .i64 (-1), .bool true]) ∧ w' = w := by
  go_enter Tryz.func31, Tryz.ntmps31
  go_wp2
  go_ret2
  exact ⟨rfl, rfl⟩

theorem MeetEnd.out (h : MeetEnd k kw g L lev p w w1) : ∃ g', Hid (J k kw w1 g' L lev p) ∧ Hid (Same g g') ∧ Hid (Inv kw.n g' (litsF L) (fun _ => g'.dn) (fun i => i ∈ g'.P (3 * kw.n))) ∧ Hid (g'.dn ≤ L.length) ∧ Hid (tot kw.n g' = tot kw.n g) ∧ Hid (FW kw.B w w1) := h

theorem AllEnd.out {e : Ending} (h : AllEnd k kw g L lev p w e w1) :
    (∃ g' L' p', e = .returned (.pointer none) ∧ Hid (Mv k kw g L lev p w 0 g' L' p' w1) ∧ Hid (g'.dn = g.dn) ∧ Hid (Inv kw.n g' (litsF L') (fun _ => g.dn) (fun _ => False)) ∧ Hid (g'.P (3 * kw.n) = [])) ∨
    (∃ g' L' p' c, e = .returned (.pointer (some ⟨g.cb c, 0, none⟩)) ∧ Hid (Mv k kw g L lev p w 0 g' L' p' w1) ∧ Hid (g'.dn = g.dn) ∧ Hid (Inv kw.n g' (litsF L') (fun _ => g.dn) (fun i => i ∈ g'.P (3 * kw.n))) ∧ Hid (c < g.nx ∧ g.gn c = false ∧ ∀ x ∈ g.lt c, valueF L' x = -1)) := by
  obtain ⟨g', L', p', h1, h2, h3⟩ := h
  rcases h3 with ⟨e1, h4, h5⟩ | ⟨c, e1, c1, c2, h4, c3⟩
  · exact .inl ⟨g', L', p', e1, h1, h2, h4, h5⟩
  · exact .inr ⟨g', L', p', c, e1, h1, h2, h4, c1, c2, c3⟩

theorem SpEnd.out {e : Ending} (h : SpEnd k kw g L lev p w e w1) :
    (∃ g' L' p', e = .returned (.pointer none) ∧ Hid (Mv k kw g L lev p w (kw.n * g.nx + 1) g' L' p' w1) ∧ Hid (g'.dn = L'.length ∧ Inv kw.n g' (litsF L') (fun _ => g'.dn) (fun _ => False))) ∨
    (∃ g' L' p' c, e = .returned (.pointer (some ⟨g.cb c, 0, none⟩)) ∧ Hid (Mv k kw g L lev p w (kw.n * g.nx + 1) g' L' p' w1) ∧ Hid (Inv kw.n g' (litsF L') (fun _ => g'.dn) (fun i => i ∈ g'.P (3 * kw.n))) ∧ Hid (c < g.nx ∧ g.gn c = false ∧ ∀ x ∈ g.lt c, valueF L' x = -1)) := by
  obtain ⟨g', L', p', h1, h2, h3⟩ := h
  rcases h3 with ⟨e1, h4, h5, _⟩ | ⟨c, e1, c1, c2, c3, h4⟩
  · exact .inl ⟨g', L', p', e1, h1, h4, h5⟩
  · exact .inr ⟨g', L', p', c, e1, h1, h4, c1, c2, c3⟩

/-- What held is kept. -/
theorem Mv.keep {g0 g' : G} {L' : List E} {p' : V} {B : Nat} (hm : Mv k kw g L lev p w B g' L' p' w1) (iv : Inv kw.n g' (litsF L') (fun _ => g'.dn) (fun i => i ∈ g'.P (3 * kw.n))) :
    Wa k kw (w1.setCell ⟨kw.OB, 5, none⟩ (.slice (litA p') L'.length L'.length)) { g' with hv := .slice (litA p') L'.length L'.length } L' lev p' (litsF L') ∧ FW kw.B w1 (w1.setCell ⟨kw.OB, 5, none⟩ (.slice (litA p') L'.length L'.length)) := by
  have F : FW kw.B w1 (w1.setCell ⟨kw.OB, 5, none⟩ (.slice (litA p') L'.length L'.length)) := FW.grown (grown_set w1 ⟨kw.OB, 5, none⟩ _) (fun i T e t => by cases e; rw [t.one ⟨_, _, hm.j.s.c.ob⟩]; simp [Wt]) (fun i e => by cases e; exact hm.j.s.c.lo.1)
  refine ⟨⟨hm.j.fw F (hm.j.s.puth _) rfl rfl rfl rfl, iv.like rfl rfl rfl rfl rfl rfl rfl rfl, hm.j.t.told.ft (FT.fw F), ⟨_, _, rfl⟩, fun x hx => ?_, by rw [litsF_len]; have := hm.j.t.len; omega, hm.rs.as rfl rfl rfl⟩, F⟩
  obtain ⟨r, hr⟩ := List.mem_iff_getElem?.1 hx
  obtain ⟨e, he, rfl⟩ := lits_at.1 hr
  have h1 := hm.j.t.lits_lt e (List.mem_of_getElem? he)
  have h2 := hm.j.n
  unfold vr at h1
  omega

theorem run_d {g1 g2 : G} {L2 : List E} {p2 : V} {B : Nat} (h1 : g1.dn ≤ L.length) (h2 : g2.dn = g1.dn) (m : Mv k kw g1 L lev p w B g2 L2 p2 w1) : g2.dn ≤ L2.length := by have := m.ex.len; omega
theorem run_n {g1 g2 : G} {L2 : List E} {p2 : V} {B : Nat} (h1 : g1.nx ≤ 1000000) (m : Mv k kw g1 L lev p w B g2 L2 p2 w1) : g2.nx ≤ 1000000 := by rw [m.sm.nx]; exact h1
theorem run_s {g1 g2 : G} {L2 : List E} {p2 : V} (h1 : tot kw.n g1 = tot kw.n g) (s : Same g g1) (m : Mv k kw g1 L lev p w 0 g2 L2 p2 w1) (h2 : g2.P (3 * kw.n) = []) (hs : tot kw.n g + kw.n * g.nx ≤ 300000000000) : sumL kw.n g2.P + kw.n * g2.nx ≤ 400000000000 := by
  have h3 := m.su
  rw [m.sm.nx, s.nx]
  unfold tot at h3
  rw [h2] at h3
  unfold tot at h1 hs
  simp only [List.length_nil] at h3
  omega
theorem run_mv {g1 g2 g3 : G} {L2 L3 : List E} {p2 p3 : V} {w2 w3 : World} (a : Mv k kw g1 L lev p w1 0 g2 L2 p2 w2) (b : Mv k kw g2 L2 lev p2 w2 (kw.n * g2.nx + 1) g3 L3 p3 w3) : Mv k kw g1 L lev p w1 (kw.n * g1.nx + 1) g3 L3 p3 w3 := by
  have := a.trans b
  rw [a.sm.nx, Nat.zero_add] at this
  exact this

theorem inv_dn {n : Nat} {g2 : G} {H : List Int} {d : Nat} {X : Nat → Prop} (h : Inv n g2 H (fun _ => d) X) (e : g2.dn = d) : Inv n g2 H (fun _ => g2.dn) X := by rw [e]; exact h

/-- A clause that is told. -/
theorem Mv.num {g' : G} {L' : List E} {p' : V} {B c : Nat} (hm : Mv k kw g L lev p w B g' L' p' w1) (hc : c < g.nx) (hg : g.gn c = false) : w1.cell? ⟨g.cb c, 0, none⟩ = some (.int .i64 c) ∧ ¬ g.cb c = kw.OB := by
  have h1 : c < g'.nx := by rw [hm.sm.nx]; exact hc
  have h2 : g'.gn c = false := by rw [hm.sm.gn]; exact hg
  rw [← hm.sm.cb]
  exact ⟨(hm.j.s.l.ks h1 h2).1, blk_ne (hm.j.s.l.cl c h1) hm.j.s.c.ob (by decide)⟩

set_option maxHeartbeats 4000000 in
theorem run_is (W : Wa k kw w g L lev p H) (hnx : g.nx ≤ 1000000) (hsu : tot kw.n g + kw.n * g.nx ≤ 300000000000) :
    Calls Tryz.prog 31 #[.pointer (some ⟨kw.OB, 0, none⟩), .pointer (some ⟨k.OB, 0, none⟩)] w fun e w' => RunEnd k kw g L lev p w e w' := by
  obtain ⟨ao, n, hv⟩ := W.hf
  have hn : n ≤ 10000000000000 := by
    have h1 := W.hl
    obtain ⟨_, _, _, e, h2, _⟩ := W.ht
    rw [hv] at e
    cases e
    omega
  have HW := hid W
  have HV := hid hv
  have hs0 : tot kw.n g ≤ 400000000000 := by omega
  clear W hv
  go_enter Tryz.func31, Tryz.ntmps31
  go_wp2_with (first
    | (go_at_call 47; with_reducible (refine (meet_is HW.out.j HW.out.iv HW.out.ht HV.out HW.out.hH hn hs0).mono ?_); rintro e w1 ⟨rfl, hme⟩; have hme2 := MeetEnd.out hme; obtain ⟨g1, J1, S1, I1, D1, U1, F1⟩ := hme2; have R1 := hid (HW.out.rs.as S1.out.nx S1.out.gn S1.out.lt); have hn1 := hid (show g1.nx ≤ 1000000 by rw [S1.out.nx]; exact hnx); have hs1 := hid (show tot kw.n g1 ≤ 400000000000 by rw [U1.out]; exact hs0))
    | (go_at_call 48; with_reducible (refine (settleAll_is J1.out I1.out R1.out D1.out hn1.out hs1.out).mono ?_); intro e w2 hae; have hae2 := AllEnd.out hae; rcases hae2 with ⟨g2, L2, p2, rfl, M2, D2, I2, P2⟩ | ⟨g2, L2, p2, c, rfl, M2, D2, I2, hbad⟩; rotate_left; have MF := hid (M2.out.weak (B' := kw.n * g1.nx + 1) (by omega)); have IF := hid (inv_dn I2.out D2.out); have c5 := MF.out.j.s.c5; have f5 := MF.out.j.s.of 5; rw [MF.out.sm.hv, S1.out.hv, HV.out] at c5; have NM := MF.out.num hbad.out.1 hbad.out.2.1; obtain ⟨nm1, nm2⟩ := NM; rotate_left)
    | (go_at_call 49; with_reducible (refine (spread_is M2.out.j (inv_dn I2.out D2.out) M2.out.rs P2.out (run_d D1.out D2.out M2.out) (run_n hn1.out M2.out) (run_s U1.out S1.out M2.out P2.out hsu)).mono ?_); intro e w3 hsp; have hsp2 := SpEnd.out hsp; rcases hsp2 with ⟨g3, L3, p3, rfl, M3, I3⟩ | ⟨g3, L3, p3, c, rfl, M3, I3, hbad⟩; have MF := hid (run_mv M2.out M3.out); have IF := hid (I3.out.2.mono (X' := fun i => i ∈ g3.P (3 * kw.n)) (fun _ => Nat.le_refl _) (fun i hi => hi.elim)); have c5 := MF.out.j.s.c5; have f5 := MF.out.j.s.of 5; rw [MF.out.sm.hv, S1.out.hv, HV.out] at c5; rotate_left; have MF := hid (run_mv M2.out M3.out); have IF := hid I3.out; have c5 := MF.out.j.s.c5; have f5 := MF.out.j.s.of 5; rw [MF.out.sm.hv, S1.out.hv, HV.out] at c5; have NM := M3.out.num hbad.out.1 hbad.out.2.1; obtain ⟨nm1, nm2⟩ := NM; rotate_left)
    | (go_at_call 50; with_reducible (refine (lits_det MF.out.j.t rfl).mono ?_); rintro e w4 ⟨rfl, rfl⟩))
  · obtain ⟨WF, FF⟩ := Mv.keep (g0 := g) MF.out IF.out
    go_ret2
    refine ⟨_, _, _, WF, (S1.out.sm.trans MF.out.sm.sm).trans ⟨rfl, rfl, rfl, rfl, rfl, rfl, rfl⟩, MF.out.ex, ?_, ((FT.fw F1.out).trans MF.out.ft).trans (FT.fw FF), fun j hj => litA_mine hj, .inl ⟨rfl, ?_⟩⟩
    · have := MF.out.su
      rw [U1.out, S1.out.nx] at this
      exact this
    · exact I3.out.2.closed I3.out.1 MF.out.j.t.nd
  · obtain ⟨WF, FF⟩ := Mv.keep (g0 := g) MF.out IF.out
    go_ret2
    refine ⟨_, _, _, WF, (S1.out.sm.trans MF.out.sm.sm).trans ⟨rfl, rfl, rfl, rfl, rfl, rfl, rfl⟩, MF.out.ex, ?_, ((FT.fw F1.out).trans MF.out.ft).trans (FT.fw FF), fun j hj => litA_mine hj, .inr ⟨c, rfl, ?_, ?_, ?_⟩⟩
    · have := MF.out.su
      rw [U1.out, S1.out.nx] at this
      exact this
    · rw [← S1.out.nx, ← M2.out.sm.nx]; exact hbad.out.1
    · rw [← S1.out.gn, ← M2.out.sm.gn]; exact hbad.out.2.1
    · rw [← S1.out.lt, ← M2.out.sm.lt]; exact hbad.out.2.2
  · obtain ⟨WF, FF⟩ := Mv.keep (g0 := g) MF.out IF.out
    go_ret2
    refine ⟨_, _, _, WF, (S1.out.sm.trans MF.out.sm.sm).trans ⟨rfl, rfl, rfl, rfl, rfl, rfl, rfl⟩, MF.out.ex, ?_, ((FT.fw F1.out).trans MF.out.ft).trans (FT.fw FF), fun j hj => litA_mine hj, .inr ⟨c, rfl, ?_, ?_, ?_⟩⟩
    · have := MF.out.su
      rw [U1.out, S1.out.nx] at this
      exact this
    · rw [← S1.out.nx]; exact hbad.out.1
    · rw [← S1.out.gn]; exact hbad.out.2.1
    · rw [← S1.out.lt]; exact hbad.out.2.2
end

end Go.Proofs.YtimfjoinjfecjaaGreat
