/-
  meet, exactly.
-/
import Derived.Test.YtimfjoinjfecjaaGreatQ42
import Derived.Test.YtimfjoinjfecjaaGreatQ25

namespace Go.Proofs.YtimfjoinjfecjaaGreat
open Go.RowKit Go.Maps
set_option linter.unusedVariables false

def loseF (n : Nat) : WP → List Int → WP
  | q, [] => q
  | q, x :: xs => loseF n { q with P := up (up q.P (3 * n) (q.P (3 * n) ++ q.P (2 * n + vl x))) (2 * n + vl x) [] } xs
def putF : WP → Nat → List Int → WP
  | q, _, [] => q
  | q, i, x :: xs => putF (plF q (vl x) i) (i + 1) xs
/-- What meet makes, where H held ahead and N holds now. -/
def meetF (n : Nat) (q : WP) (H N : List Int) : WP := dnF (putF (loseF n q (H.drop (lcpF H N))) (lcpF H N) (N.drop (lcpF H N))) (min q.dn (lcpF H N))

theorem lose_step {n i u : Nat} {g : G} {v1 v2 : Value} {H : List Int} {x : Int} (h : H[i]? = some x) (hu : vl x = u) : loseF n g.pt (H.drop i) = loseF n ((g.slot (3 * n) (g.P (3 * n) ++ g.P (2 * n + u)) v1).slot (2 * n + u) [] v2).pt (H.drop (i + 1)) := by
  rw [drop_at h, loseF, hu]; rfl
theorem put_step {i u : Nat} {g : G} {N : List Int} {x : Int} (h : N[i]? = some x) (hu : vl x = u) : putF g.pt i (N.drop i) = putF (g.place u ((i : Nat) : Int)).pt (i + 1) (N.drop (i + 1)) := by
  rw [drop_at h, putF, hu]; rfl

section
variable {k : K} {kw : WK} {w : World} {g : G} {L : List E} {lev : Nat} {p : V} {H : List Int}

def MeetX (k : K) (kw : WK) (g : G) (L : List E) (lev : Nat) (p : V) (H : List Int) (w w' : World) : Prop :=
  ∃ g', J k kw w' g' L lev p ∧ Same g g' ∧ Inv kw.n g' (litsF L) (fun _ => g'.dn) (fun i => i ∈ g'.P (3 * kw.n)) ∧ g'.dn ≤ L.length ∧ tot kw.n g' = tot kw.n g ∧ FW kw.B w w' ∧ g'.pt = meetF kw.n g.pt H (litsF L)

set_option maxHeartbeats 4000000 in
theorem meet_ex (j : J k kw w g L lev p) (iv : Inv kw.n g H (fun _ => g.dn) (fun i => i ∈ g.P (3 * kw.n))) (ht : Told k p w g.hv H) {ao : Option Addr} {n : Nat} (hv : g.hv = .slice ao n n) (hH : ∀ x ∈ H, x < 2 * kw.n) (hn : n ≤ 10000000000000) (hsu : tot kw.n g ≤ 400000000000) :
    Calls Tryz.prog 47 #[.pointer (some ⟨kw.OB, 0, none⟩), .pointer (some ⟨k.OB, 0, none⟩)] w fun e w' => e = .returned (.tuple #[]) ∧ MeetX k kw g L lev p H w w' := by
  have c5 := j.s.c5
  rw [hv] at c5 ht
  have hnH : H.length = n := by obtain ⟨_, _, _, e, h, _⟩ := ht; cases e; exact h
  have hN := j.t.told
  have hlen := j.t.len
  have h0 : ∀ b, litA p = some ⟨b, 0, none⟩ → ∃ cur, w.heap[b]? = some (.cells cur 3 (0, 0)) := fun b hb => by
    obtain ⟨F, S, s, _⟩ := j.t
    rcases s.rl with ⟨h1, _⟩ | ⟨b', cap, cur, h1, _, h3, _⟩
    · unfold litA at hb; rw [h1] at hb; cases hb
    · unfold litA at hb; rw [h1] at hb; cases hb; exact ⟨cur, h3⟩
  have hL : L.length ≤ 10000000000000 := by omega
  have hL2 : L.length ≤ 1048576 := by omega
  have hnn := j.n
  have hkn := j.s.l.hn
  have HJ := hid j
  have HI := hid iv
  have HT := hid ht
  have HNT := hid hN
  have H0 := hid h0
  have HH := hid hH
  have HLH := hid hnH
  have HV := hid hv
  obtain ⟨bo, hbo⟩ : ∃ bo, litA p = bo := ⟨_, rfl⟩
  rw [hbo] at HNT H0
  have HBO := hid hbo
  obtain ⟨N, hNL⟩ : ∃ N, L.length = N := ⟨_, rfl⟩
  rw [hNL] at HNT hL hL2
  have HLL := hid hNL
  clear j iv ht hN h0 hH hnH hbo hlen hv hNL
  go_enter Tryz.func47, Tryz.ntmps47
  go_upto_region 2 with (first
    | (go_at_call 50; with_reducible (refine (lits_ad HJ.out.t HLL.out HBO.out).mono ?_); rintro e w ⟨rfl, rfl⟩)
    | (go_at_call 74; with_reducible (refine (alike_ex HT.out HNT.out hn hL H0.out).mono ?_); intro e w1 hal; have hal2 := AlX.out hal; obtain ⟨q, rfl, hq, hlq, b1⟩ := hal2))
  have J1 := hid (HJ.out.below b1.out)
  have T1 := hid (HT.out.ft (FT.below (B := 0) b1.out))
  have NT1 := hid (HNT.out.ft (FT.below (B := 0) b1.out))
  have hqn : q ≤ n := by rw [← HLH.out]; exact hq.out.1
  have hqN : q ≤ N := by have := hq.out.2.1; rw [litsF_len, HLL.out] at this; exact this
  have hq1 : (q : Int) ≤ n := by omega
  have hq2 : (q : Int) ≤ N := by omega
  have c5' := J1.out.s.c5
  rw [show g.hv = .slice ao n n from HV.out] at c5'
  have T0 := HT
  have NT0 := HNT
  clear c5 HT HNT H0
  go_cut [23, 24, 25] from 10 to 57 (fun s l i wx => ∃ a c, s = .slice a (n - q) c ∧ l = .int .i64 ((n - q : Nat) : Int) ∧ i = .int .i64 0 ∧ Hid (q < n → ∃ b, ao = some ⟨b, 0, none⟩ ∧ a = some ⟨b, q, none⟩) ∧ wx = w1)
  case first =>
    by_cases hz : q = n
    · have hzz : Hid (q < n → ∃ b, ao = some ⟨b, 0, none⟩ ∧ ao = some ⟨b, q, none⟩) := hid (fun h => by omega)
      subst hz
      cases ao with
      | none =>
        go_wp2
        go_meet
        exact ⟨none, 0, by simp, by simp, rfl, hid (fun h => by omega), rfl⟩
      | some a0 =>
        go_wp2
        go_meet
        exact ⟨some a0, 0, by simp, by simp, rfl, hid (fun h => by omega), rfl⟩
    · obtain ⟨b, y, e, _⟩ := T1.out.at (q := q) (by omega)
      subst e
      have hzz : ¬ n = q := fun e => hz e.symm
      go_wp2
      go_meet
      exact ⟨some ⟨b, q, none⟩, n - q, by simp, by simp, rfl, hid (fun _ => ⟨b, rfl, rfl⟩), rfl⟩
  case rest =>
    obtain ⟨a1, ca1, rfl, rfl, rfl, ha1, rfl⟩ := hcut
    go_wp2
    go_loopw [7, 25] (fun _ i wr => ∃ (r : Nat) (g1 : G), r ≤ n - q ∧ i = .int .i64 r ∧ Hid (LoseI kw.n g g1 (H.drop q) r) ∧ Hid (loseF kw.n g.pt (H.drop q) = loseF kw.n g1.pt (H.drop (q + r))) ∧ Hid (St kw wr g1) ∧ Hid (FW kw.B w wr)) (fun _ i _ => n - q - (intOf i).toNat)
    case atStart => exact ⟨0, g, Nat.zero_le _, rfl, hid (LoseI.start _ _ _), hid rfl, hid J1.out.s, hid (FW.below b1.out)⟩
    case round =>
      clear c5'
      obtain ⟨r, g1, hr, rfl, hl, hlx, hs, hfw⟩ := hrel
      by_cases hlt : r < n - q
      · obtain ⟨b, rfl, rfl⟩ := ha1.out (by omega)
        have TR := hid (T0.out.ft (FT.fw hfw.out) : Told k p wr (.slice (some ⟨b, 0, none⟩) n n) H)
        obtain ⟨b2, y, e, hc, hy, _, y0, y1⟩ := TR.out.at (q := q + r) (by omega)
        cases e
        have hlt' : (r : Int) < ((n - q : Nat) : Int) := by omega
        obtain ⟨m, rfl⟩ := Int.eq_ofNat_of_zero_le y0
        have hmn := HH.out _ (List.mem_of_getElem? hy.out)
        have hvl : vl (m : Int) = m / 2 := by unfold vl; omega
        have hun : m / 2 < kw.n := by omega
        have HX : Hid ((H.drop q)[r]? = some (m : Int)) := hid (by rw [List.getElem?_drop]; exact hy.out)
        have hlen : (g1.P (3 * kw.n)).length + (g1.P (2 * kw.n + m / 2)).length ≤ 1000000000000 := by
          have h1 := sum_le (P := g1.P) hun
          have h2 := hl.out.su
          unfold tot at h2 hsu
          omega
        clear hy y0 hmn
        go_wp2_with (go_at_call 75; with_reducible (refine (lose_is hs.out m (m / 2) rfl hun hlen).mono ?_); rintro e w3 ⟨rfl, hle⟩)
        go_roundw
        case rel =>
          obtain ⟨v1, v2, s3, f3⟩ := hle
          have hn2 := hl.out.next HX.out (by rw [hvl]; exact hun) v1 v2
          rw [hvl] at hn2
          exact ⟨r + 1, _, by omega, by go_num, hid hn2, hid (hlx.out.trans (lose_step (by rw [← List.getElem?_drop]; exact HX.out) hvl)), hid s3, hid (hfw.out.trans f3)⟩
        case measure => simp only [intOf]; omega
      · have hre : r = n - q := by omega
        have HL : Hid (LoseI kw.n g g1 (H.drop q) (H.length - q)) := hid (by rw [HLH.out, ← hre]; exact hl.out)
        have HLX : Hid (loseF kw.n g.pt (H.drop q) = g1.pt) := hid (by rw [hlx.out, show q + r = H.length by rw [HLH.out]; omega, List.drop_length]; rfl)
        have hlt' : ¬ (r : Int) < ((n - q : Nat) : Int) := by omega
        have hltd : decide (r < n - q) = false := by simpa using hlt
        have J2 : Hid (J k kw wr g1 L lev p) := hid (HJ.out.fw hfw.out hs.out hl.out.sm.nx hl.out.sm.gn hl.out.sm.lv hl.out.sm.lt)
        have NT2 := hid (NT0.out.ft (FT.fw hfw.out))
        clear hl hre T1 NT1 J1
        go_upto_region 7 with fail
        go_cut [35, 36, 37] from 10 to 57 (fun s l i wx => ∃ a c, s = .slice a (N - q) c ∧ l = .int .i64 ((N - q : Nat) : Int) ∧ i = .int .i64 0 ∧ Hid (q < N → ∃ b, bo = some ⟨b, 0, none⟩ ∧ a = some ⟨b, q, none⟩) ∧ wx = wr)
        case first =>
          by_cases hz : q = N
          · have hzz : Hid (q < N → ∃ b, bo = some ⟨b, 0, none⟩ ∧ bo = some ⟨b, q, none⟩) := hid (fun h => by omega)
            subst hz
            cases bo with
            | none =>
              go_wp2
              go_meet
              exact ⟨none, 0, by simp, by simp, rfl, hid (fun h => by omega), rfl⟩
            | some a0 =>
              go_wp2
              go_meet
              exact ⟨some a0, 0, by simp, by simp, rfl, hid (fun h => by omega), rfl⟩
          · obtain ⟨b, y, e, _⟩ := NT2.out.at (q := q) (by omega)
            subst e
            have hzz : ¬ N = q := fun e => hz e.symm
            go_wp2
            go_meet
            exact ⟨some ⟨b, q, none⟩, N - q, by simp, by simp, rfl, hid (fun _ => ⟨b, rfl, rfl⟩), rfl⟩
        case rest =>
          obtain ⟨a2, ca2, rfl, rfl, rfl, ha2, rfl⟩ := hcut
          have P0 : Hid (PutI (litsF L) g1 g1 (q + 0)) := hid ⟨g1.pl, rfl, fun r' x hr' hx => by
            rw [Nat.add_zero] at hr'
            rw [HL.out.ep]
            exact HI.out.pl r' x (by rw [take_at hq.out.2.2 hr']; exact hx)⟩
          go_wp2
          go_loopw [8, 9, 37] (fun _ _ i wx => ∃ (r : Nat) (g2 : G), r ≤ N - q ∧ i = .int .i64 r ∧ Hid (PutI (litsF L) g1 g2 (q + r)) ∧ Hid (putF g1.pt q ((litsF L).drop q) = putF g2.pt (q + r) ((litsF L).drop (q + r))) ∧ Hid (St kw wx g2) ∧ Hid (FW kw.B w wx)) (fun _ _ i _ => N - q - (intOf i).toNat)
          case atStart => exact ⟨0, g1, Nat.zero_le _, rfl, P0, hid rfl, hs, hfw⟩
          case round =>
            clear P0 hs
            obtain ⟨r2, g2, hr2, rfl, hp2, hpx, hs2, hf2⟩ := hrel
            by_cases hlt2 : r2 < N - q
            · obtain ⟨b, rfl, rfl⟩ := ha2.out (by omega)
              have TR := hid (NT0.out.ft (FT.fw hf2.out))
              obtain ⟨b2, y, e, hc, hy, _, y0, y1⟩ := TR.out.at (q := q + r2) (by omega)
              cases e
              have hlt2' : (r2 : Int) < ((N - q : Nat) : Int) := by omega
              obtain ⟨m, rfl⟩ := Int.eq_ofNat_of_zero_le y0
              have hvl : vl (m : Int) = m / 2 := by unfold vl; omega
              have hun : m / 2 < kw.n := by
                obtain ⟨ee, hee, hem⟩ := lits_at.1 hy.out
                have := HJ.out.t.lits_lt ee (List.mem_of_getElem? hee)
                unfold vr at this
                omega
              have HP : Hid (PutI (litsF L) g1 (g2.place (m / 2) ((q + r2 : Nat) : Int)) (q + r2 + 1)) := hid (by
                have := hp2.out.next hy.out (fun r' y' hr' hy' => lits_vl HJ.out.t.nd hy' hy.out (by omega))
                rw [hvl] at this
                exact this)
              have hadd : (q : Int) + r2 ≤ 9223372036854775807 := by omega
              have HZ : Hid ((q : Int) + r2 = ((q + r2 : Nat) : Int)) := hid (by omega)
              have HYY := hid hy.out
              clear hy y0
              go_wp2_with (go_at_call 76; with_reducible (refine (put_at hs2.out m (m / 2) rfl hun _ (q + r2) HZ.out).mono ?_); rintro e w3 ⟨rfl, h3⟩)
              go_roundw
              case rel => exact ⟨r2 + 1, _, by omega, by go_num, hid (by rw [← Nat.add_assoc]; exact HP.out), hid (hpx.out.trans (put_step HYY.out hvl)), hid h3.out.1, hid (hf2.out.trans h3.out.2)⟩
              case measure => simp only [intOf]; omega
            · have hre : r2 = N - q := by omega
              have hlt2' : ¬ (r2 : Int) < ((N - q : Nat) : Int) := by omega
              have hltd2 : decide (r2 < N - q) = false := by simpa using hlt2
              obtain ⟨f, rfl, hf⟩ := hp2.out
              have HPX : Hid (putF g1.pt q ((litsF L).drop q) = ({ g1 with pl := f } : G).pt) := hid (by rw [hpx.out, show q + r2 = (litsF L).length by rw [litsF_len, HLL.out]; omega, List.drop_length]; rfl)
              have hf' : ∀ (r' : Nat) (x : Int), (litsF L)[r']? = some x → f (vl x) = r' := fun r' x hx => hf r' x (by
                have := (List.getElem?_eq_some_iff.1 hx).1
                rw [litsF_len, HLL.out] at this
                omega) hx
              have c6 := hs2.out.c6
              have f6 := hs2.out.of 6
              have hdn : ({ g1 with pl := f } : G).dn = g.dn := HL.out.ed
              rw [hdn] at c6
              have mn := fun W => min_is W g.dn q
              have s9 := hid (hs2.out.putd (min g.dn q))
              have F9 : Hid (FW kw.B wr (wr.setCell ⟨kw.OB, 6, none⟩ (.int .i64 ((min g.dn q : Nat) : Int)))) := hid (FW.grown (grown_set wr ⟨kw.OB, 6, none⟩ _) (fun i T e t => by cases e; rw [t.one ⟨_, _, hs2.out.c.ob⟩]; simp [Wt]) (fun i e => by cases e; exact hs2.out.c.lo.1))
              have HE : Hid (MeetX k kw g L lev p H w (wr.setCell ⟨kw.OB, 6, none⟩ (.int .i64 ((min g.dn q : Nat) : Int)))) := hid (by
                refine ⟨_, HJ.out.fw (hf2.out.trans F9.out) s9.out HL.out.sm.nx HL.out.sm.gn HL.out.sm.lv HL.out.sm.lt, HL.out.sm.trans ⟨rfl, rfl, rfl, rfl, rfl, rfl, rfl, rfl⟩, HI.out.meet HL.out hq.out.1 hq.out.2.2 hf' (Nat.min_le_left _ _) (Nat.min_le_right _ _), ?_, HL.out.su, hf2.out.trans F9.out, by unfold meetF; rw [hlq.out, HLX.out, HPX.out]; rfl⟩
                show min g.dn q ≤ L.length
                rw [HLL.out]
                exact Nat.le_trans (Nat.min_le_right _ _) hqN)
              generalize hD : (min g.dn q : Nat) = D at *
              clear hre hlt2 hs2 s9 F9 hf hf' hdn hD
              go_wp2
              go_end0
              exact ⟨rfl, HE.out⟩
end
end Go.Proofs.YtimfjoinjfecjaaGreat
