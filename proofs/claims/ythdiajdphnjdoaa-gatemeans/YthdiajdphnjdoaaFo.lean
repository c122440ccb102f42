/-
  means; follows.
-/
import Derived.Test.YthdiajdphnjdoaaAw
import Derived.Deep.CutRange
namespace Go.Proofs.Ythdiajdphnjdoaa
open Go.RowKit
set_option linter.unusedVariables false

/-- Holds of a literal that is there, or of a number below 0. -/
theorem holds_hv {w : World} {kb ib n : Nat} {val : Nat → Bool} (hv0 : Vs w kb ib n (fun _ => true) val) (hn : n ≤ 10000) {x : Int} (hx : rng n x ∨ x < 0) (x1 : x ≤ 9223372036854775807) :
    Calls Try.prog 22 #[.agg #[.slice (some ⟨kb, 0, none⟩) n n, .slice (some ⟨ib, 0, none⟩) n n], .int .i64 x] w fun e w' => e = .returned (.tuple #[.bool (hv val x), .bool (knF n (fun _ => true) x)]) ∧ Hid (Below w.heap.size w w') := by
  refine (holds_any w kb ib n _ _ hv0 hn x x1).mono ?_
  rintro e w' ⟨rfl, h⟩
  refine ⟨?_, h⟩
  rcases hx with hx | hx
  · rw [isF_full hx, hv_rng hx]
  · have e : okF n x = false := by simp [okF]; omega
    rw [hv_neg hx, isF, knF, e]; rfl

theorem means_any (w : World) (kb ib n : Nat) (val : Nat → Bool) (hv0 : Vs w kb ib n (fun _ => true) val) (hn : n ≤ 10000) (k a b c : Int) (ha : rng n a) (hb : rng n b) (hc : rng n c ∨ c < 0) :
    Calls Try.prog 24 #[.agg #[.slice (some ⟨kb, 0, none⟩) n n, .slice (some ⟨ib, 0, none⟩) n n], .int .i64 k, .int .i64 a, .int .i64 b, .int .i64 c] w fun e w' => e = .returned (.bool (sF k (hd val a) (hd val b) (hv val c))) ∧ Hid (Below w.heap.size w w') := by
  have bb := hid ((Below.refl w.heap.size w).alloc (Nat.le_refl _) (.cells #[.slice (some ⟨kb, 0, none⟩) n n, .slice (some ⟨ib, 0, none⟩) n n] 45))
  obtain ⟨d0, d1⟩ := box_cells w (.slice (some ⟨kb, 0, none⟩) n n) (.slice (some ⟨ib, 0, none⟩) n n)
  have HV := hid (hv0.keep bb.out)
  have RA := hid ha
  have RB := hid hb
  have RC := hid hc
  have c1 : Hid (c ≤ 9223372036854775807) := hid (by unfold rng at hc; omega)
  clear hv0 ha hb hc
  go_enter Try.func24, Try.ntmps24
  go_wp2_with (first
    | (go_at_call 22; with_reducible (refine (holds_full HV.out hn RA.out rfl).mono ?_); rintro e wx ⟨rfl, hb⟩; have d0 := (hb.out.cell (cell_lt d0)).trans d0; have d1 := (hb.out.cell (cell_lt d1)).trans d1; have HV := hid (HV.out.keep hb.out); have bb := hid (Below.next bb.out hb.out))
    | (go_at_call 22; with_reducible (refine (holds_full HV.out hn RB.out rfl).mono ?_); rintro e wx ⟨rfl, hb⟩; have d0 := (hb.out.cell (cell_lt d0)).trans d0; have d1 := (hb.out.cell (cell_lt d1)).trans d1; have HV := hid (HV.out.keep hb.out); have bb := hid (Below.next bb.out hb.out))
    | (go_at_call 22; with_reducible (refine (holds_hv HV.out hn RC.out c1.out).mono ?_); rintro e wx ⟨rfl, hb⟩; have d0 := (hb.out.cell (cell_lt d0)).trans d0; have d1 := (hb.out.cell (cell_lt d1)).trans d1; have HV := hid (HV.out.keep hb.out); have bb := hid (Below.next bb.out hb.out))
    | (go_at_call 32; with_reducible (refine (says_any _ _ _ _ _).mono ?_); rintro e wx ⟨rfl, rfl⟩))
  go_ret
  exact ⟨rfl, bb⟩

/-- What was asked for: which gate, and of which literals. -/
structure Ar where
  k : Int
  a : Int
  b : Int
  c : Int

/-- What was told says what its gate does. -/
def Says (n : Nat) (val : Nat → Bool) (x : Int) (r : Ar) : Prop :=
  rng n x ∧ (r.k = 6 → hd val x = true) ∧ (0 < r.k ∧ r.k < 6 → rng n r.a ∧ rng n r.b ∧ (rng n r.c ∨ r.c < 0) ∧ hd val x = sF r.k (hd val r.a) (hd val r.b) (hv val r.c))

theorem hv_agree {val val' : Nat → Bool} {n : Nat} (h : ∀ i, i < n → val' i = val i) {x : Int} (hx : rng n x ∨ x < 0) : hv val' x = hv val x := by
  rcases hx with hx | hx
  · rw [hv_rng hx, hv_rng hx, hd_agree h hx]
  · rw [hv_neg hx, hv_neg hx]

theorem Says.more {n n' : Nat} {val val' : Nat → Bool} {x : Int} {r : Ar} (h : Says n val x r) (hn : n ≤ n') (ha : ∀ i, i < n → val' i = val i) : Says n' val' x r := by
  obtain ⟨h1, h2, h3⟩ := h
  refine ⟨rng_more h1 hn, fun e => by rw [hd_agree ha h1]; exact h2 e, fun e => ?_⟩
  obtain ⟨q1, q2, q3, q4⟩ := h3 e
  refine ⟨rng_more q1 hn, rng_more q2 hn, or_map q3 (fun q => rng_more q hn) id, ?_⟩
  rw [hd_agree ha h1, hd_agree ha q1, hd_agree ha q2, hv_agree ha q3]; exact q4

/-- The rows of what was asked for. -/
def Args (w : World) (ao : Option Addr) (m : Nat) (rs : List Ar) : Prop := rs.length = m ∧ (0 < m → ∃ b off, ao = some ⟨b, off, none⟩ ∧ ∀ (j : Nat) (r : Ar), rs[j]? = some r →
  w.cell? ⟨b, off + j * 4, none⟩ = some (.int .i64 r.k) ∧ w.cell? ⟨b, off + j * 4 + 1, none⟩ = some (.int .i64 r.a) ∧ w.cell? ⟨b, off + j * 4 + 2, none⟩ = some (.int .i64 r.b) ∧ w.cell? ⟨b, off + j * 4 + 3, none⟩ = some (.int .i64 r.c))

theorem Args.at {w w' : World} {ao : Option Addr} {m : Nat} {rs : List Ar} (h : Args w ao m rs) (be : Below w.heap.size w w') {j : Nat} (hj : j < m) {r : Ar} (hr : rs[j]? = some r) : ∃ b off, ao = some ⟨b, off, none⟩ ∧
    w'.cell? ⟨b, off + j * 4, none⟩ = some (.int .i64 r.k) ∧ w'.cell? ⟨b, off + j * 4 + 1, none⟩ = some (.int .i64 r.a) ∧ w'.cell? ⟨b, off + j * 4 + 2, none⟩ = some (.int .i64 r.b) ∧ w'.cell? ⟨b, off + j * 4 + 3, none⟩ = some (.int .i64 r.c) := by
  obtain ⟨b, off, e, hc⟩ := h.2 (by omega)
  obtain ⟨c0, c1, c2, c3⟩ := hc j r hr
  exact ⟨b, off, e, (be.cell (cell_lt c0)).trans c0, (be.cell (cell_lt c1)).trans c1, (be.cell (cell_lt c2)).trans c2, (be.cell (cell_lt c3)).trans c3⟩

/-- What lies in memory while what was told is gone through. -/
structure St9 (w : World) (vb kb ib n : Nat) (val : Nat → Bool) (wr : World) : Prop where
  be : Below w.heap.size w wr
  bx : wr.heap[vb]? = some (.cells #[.slice (some ⟨kb, 0, none⟩) n n, .slice (some ⟨ib, 0, none⟩) n n] 45 (0, 0))
  vs : Vs wr kb ib n (fun _ => true) val

theorem St9.below {w : World} {vb kb ib n : Nat} {val : Nat → Bool} {wr w' : World} (h : St9 w vb kb ib n val wr) (b : Below wr.heap.size wr w') : St9 w vb kb ib n val w' :=
  ⟨Below.next h.be b, (b.block _ (blk_lt h.bx)).trans h.bx, h.vs.keep b⟩
theorem St9.v0 {w : World} {vb kb ib n : Nat} {val : Nat → Bool} {wr : World} (h : St9 w vb kb ib n val wr) : wr.cell? ⟨vb, 0, none⟩ = some (.slice (some ⟨kb, 0, none⟩) n n) := by rw [cell_of h.bx]; rfl
theorem St9.v1 {w : World} {vb kb ib n : Nat} {val : Nat → Bool} {wr : World} (h : St9 w vb kb ib n val wr) : wr.cell? ⟨vb, 1, none⟩ = some (.slice (some ⟨ib, 0, none⟩) n n) := by rw [cell_of h.bx]; rfl

theorem means_eq {f : FuncId} {args : Array Value} {w : World} {b y : Bool} {R : World → Prop} (hy : y = b) (h : Calls Try.prog f args w fun e w' => e = .returned (.bool b) ∧ R w') : Calls Try.prog f args w fun e w' => e = .returned (.bool y) ∧ R w' := by
  rw [hy]; exact h

set_option maxHeartbeats 8000000 in
theorem follows_any {B : BT} {gb n : Nat} {cs : List (List Int)} {val : Nat → Bool} {is : List Int} (w : World) (g : Good n cs val is) (h : Gt B gb w n cs) (hn : n ≤ 10000)
    (ha : Option Addr) (hm hcap : Nat) (hs : List Int) (hr : Row w ha hm hcap hs) (hh : ∀ x ∈ hs, rng n x ∧ hd val x = true) (hi : ∀ x ∈ is, ∃ y ∈ hs, (y / 2).toNat = (x / 2).toNat)
    (ta : Option Addr) (tm tcap : Nat) (ts : List Int) (tr : Row w ta tm tcap ts) (aa : Option Addr) (acap : Nat) (rs : List Ar) (ar : Args w aa tm rs) (htm : tm ≤ 100000)
    (sy : ∀ (j : Nat) (x : Int) (r : Ar), ts[j]? = some x → rs[j]? = some r → Says n val x r) :
    Calls Try.prog 13 #[.pointer (some ⟨gb, 0, none⟩), .slice ha hm hcap, .slice ta tm tcap, .slice aa tm acap] w fun e w' => e = .returned (.bool true) ∧ Hid (Below w.heap.size w w') := by
  have HG := hid g
  have G := hid h
  have HR := hid hr
  have HH := hid hh
  have HI := hid hi
  have TR := hid tr
  have AR := hid ar
  have SY := hid sy
  clear g h hr hh hi tr ar sy
  go_enter Try.func13, Try.ntmps13
  go_upto_region 2 with (first
    | (go_at_call 15; with_reducible (refine (vars_gt _ G.out).mono ?_); rintro e w ⟨rfl, rfl⟩)
    | (go_at_call 16; with_reducible (refine (clauses_gt _ G.out HG.out hn).mono ?_); rintro e w ⟨ao, k, rfl, hk, hg, rfl⟩)
    | (go_at_call 21; with_reducible (refine (run_any _ n hn ha hm hcap hs HR.out ao k k _ hg.out val is HG.out HH.out HI.out).mono ?_); rintro e w9 ⟨kb, ib, rfl, hv, hb⟩))
  have bb : Below w9.heap.size w9 (w9.alloc (.cells #[.slice (some ⟨kb, 0, none⟩) n n, .slice (some ⟨ib, 0, none⟩) n n] 45)) := (Below.refl _ _).alloc (Nat.le_refl _) _
  have HST : Hid (St9 w w9.heap.size kb ib n val (w9.alloc (.cells #[.slice (some ⟨kb, 0, none⟩) n n, .slice (some ⟨ib, 0, none⟩) n n] 45))) := hid ⟨Below.next hb.out bb, new_same _ _, hv.out.keep bb⟩
  generalize (w9.alloc (.cells #[.slice (some ⟨kb, 0, none⟩) n n, .slice (some ⟨ib, 0, none⟩) n n] 45)) = wz at HST ⊢
  generalize w9.heap.size = vb at HST ⊢
  have hm := TR.out.max
  clear bb hb hv HH HI hk hg
  go_wp2
  go_loopw [11, 12, 13, 14] (fun i _ _ _ wr => ∃ q : Nat, q ≤ tm ∧ i = .int .i64 q ∧ Hid (St9 w vb kb ib n val wr)) (fun i _ _ _ _ => tm - (intOf i).toNat)
  case atStart => exact ⟨0, Nat.zero_le _, rfl, HST⟩
  case round =>
    clear HST
    obtain ⟨q, hq, rfl, st⟩ := hrel
    by_cases hlt : q < tm
    · have hlt' : (q : Int) < tm := by omega
      have q0 : (0 : Int) ≤ q := by omega
      obtain ⟨x, hxq⟩ : ∃ x, ts[q]? = some x := ⟨ts[q]'(by rw [TR.out.1]; exact hlt), by simp⟩
      obtain ⟨r, hrq⟩ : ∃ r, rs[q]? = some r := ⟨rs[q]'(by rw [AR.out.1]; exact hlt), by simp⟩
      obtain ⟨tb, toff, rfl, ht, _⟩ := (TR.out.keep st.out.be).two hlt hlt hxq hxq
      obtain ⟨ab, aoff, rfl, r0, r1, r2, r3⟩ := AR.out.at st.out.be hlt hrq
      obtain ⟨s1, s2, s3⟩ := SY.out q x r hxq hrq
      have RX := hid s1
      have d0 := st.out.v0
      have d1 := st.out.v1
      have VS := hid st.out.vs
      have BK : Hid (∀ {W}, Below wr.heap.size wr W → St9 w vb kb ib n val W) := hid (fun b => st.out.below b)
      clear hxq hrq s1
      by_cases k6 : r.k = 6
      · have hx6 : hd val x = true := s2 k6
        have kq : (r.k == 6) = true := by simpa using k6
        have kp : decide (0 < r.k) = true := by simp; omega
        have kl : decide (r.k < 6) = false := by simp; omega
        clear s2 s3 k6
        haveI : Inhabited (BW wr) := ⟨⟨wr, Below.refl _ _⟩⟩
        have X0 := BW.cell d0
        have X1 := BW.cell d1
        have Xt := BW.cell ht
        go_wp2
        refine wp_region_below (by kernel_rfl) (by kernel_rfl) ?_
        repeat (go_big_quiet_step (first | (go_at_call 22; exact bw_of (holds_full (VS.out.keep (BW.be _)) hn RX.out rfl)) | fail))
        refine wpQuiet_nil ?_
        intro _ hw
        obtain ⟨p, hw2⟩ := hw
        subst hw2
        haveI : Inhabited (BW p.w) := ⟨⟨p.w, Below.refl _ _⟩⟩
        have d0 := X0 p
        have d1 := X1 p
        have r0 := (p.be.cell (cell_lt r0)).trans r0
        have r1 := (p.be.cell (cell_lt r1)).trans r1
        have r2 := (p.be.cell (cell_lt r2)).trans r2
        have r3 := (p.be.cell (cell_lt r3)).trans r3
        have VS := hid (VS.out.keep p.be)
        clear X0 X1 Xt ht
        go_wp2
        have Y0 := BW.cell d0
        have Y1 := BW.cell d1
        have Z1 := BW.cell r1
        have Z2 := BW.cell r2
        have Z3 := BW.cell r3
        refine wp_region_below (by kernel_rfl) (by kernel_rfl) ?_
        repeat (go_big_quiet_step (fail))
        refine wpQuiet_nil ?_
        intro _ hw
        obtain ⟨p2, hw2⟩ := hw
        subst hw2
        go_wp2
        go_roundw
        case rel => exact ⟨q + 1, by omega, by go_num, hid (BK.out (Below.next p.be p2.be))⟩
        case measure => simp only [intOf]; omega
      · have kq : (r.k == 6) = false := by simpa using k6
        by_cases kr : 0 < r.k ∧ r.k < 6
        · obtain ⟨sa, sb, sc, sd⟩ := s3 kr
          have SA := hid sa
          have SB := hid sb
          have SC := hid sc
          have kp : decide (0 < r.k) = true := by simp; omega
          have kl : decide (r.k < 6) = true := by simp; omega
          obtain ⟨y, hy⟩ : ∃ y, y = sF r.k (hd val r.a) (hd val r.b) (hv val r.c) := ⟨_, rfl⟩
          have HXY : Hid (hd val x = y) := hid (by rw [sd, ← hy])
          have he : (y != y) = false := by simp
          have HY := hid hy
          clear s2 s3 k6 kr sa sb sc sd hy
          haveI : Inhabited (BW wr) := ⟨⟨wr, Below.refl _ _⟩⟩
          have X0 := BW.cell d0
          have X1 := BW.cell d1
          have Xt := BW.cell ht
          go_wp2
          refine wp_region_below (by kernel_rfl) (by kernel_rfl) ?_
          repeat (go_big_quiet_step (first | (go_at_call 22; exact bw_of (holds_full (VS.out.keep (BW.be _)) hn RX.out HXY.out)) | fail))
          refine wpQuiet_nil ?_
          intro _ hw
          obtain ⟨p, hw2⟩ := hw
          subst hw2
          haveI : Inhabited (BW p.w) := ⟨⟨p.w, Below.refl _ _⟩⟩
          have d0 := X0 p
          have d1 := X1 p
          have r0 := (p.be.cell (cell_lt r0)).trans r0
          have r1 := (p.be.cell (cell_lt r1)).trans r1
          have r2 := (p.be.cell (cell_lt r2)).trans r2
          have r3 := (p.be.cell (cell_lt r3)).trans r3
          have VS := hid (VS.out.keep p.be)
          clear X0 X1 Xt ht
          go_wp2
          have Y0 := BW.cell d0
          have Y1 := BW.cell d1
          have Z1 := BW.cell r1
          have Z2 := BW.cell r2
          have Z3 := BW.cell r3
          refine wp_region_below (by kernel_rfl) (by kernel_rfl) ?_
          repeat (go_big_quiet_step (first | (go_at_call 24; exact bw_of (means_eq HY.out (means_any _ kb ib n val (VS.out.keep (BW.be _)) hn _ _ _ _ SA.out SB.out SC.out))) | fail))
          refine wpQuiet_nil ?_
          intro _ hw
          obtain ⟨p2, hw2⟩ := hw
          subst hw2
          go_wp2
          go_roundw
          case rel => exact ⟨q + 1, by omega, by go_num, hid (BK.out (Below.next p.be p2.be))⟩
          case measure => simp only [intOf]; omega
        · by_cases kp0 : 0 < r.k
          · have kp : decide (0 < r.k) = true := by simp; omega
            have kl : decide (r.k < 6) = false := by simp; omega
            clear s2 s3 k6 kr kp0
            haveI : Inhabited (BW wr) := ⟨⟨wr, Below.refl _ _⟩⟩
            have X0 := BW.cell d0
            have X1 := BW.cell d1
            have Xt := BW.cell ht
            go_wp2
            refine wp_region_below (by kernel_rfl) (by kernel_rfl) ?_
            repeat (go_big_quiet_step (first | (go_at_call 22; exact bw_of (holds_full (VS.out.keep (BW.be _)) hn RX.out rfl)) | fail))
            refine wpQuiet_nil ?_
            intro _ hw
            obtain ⟨p, hw2⟩ := hw
            subst hw2
            haveI : Inhabited (BW p.w) := ⟨⟨p.w, Below.refl _ _⟩⟩
            have d0 := X0 p
            have d1 := X1 p
            have r0 := (p.be.cell (cell_lt r0)).trans r0
            have r1 := (p.be.cell (cell_lt r1)).trans r1
            have r2 := (p.be.cell (cell_lt r2)).trans r2
            have r3 := (p.be.cell (cell_lt r3)).trans r3
            have VS := hid (VS.out.keep p.be)
            clear X0 X1 Xt ht
            go_wp2
            have Y0 := BW.cell d0
            have Y1 := BW.cell d1
            have Z1 := BW.cell r1
            have Z2 := BW.cell r2
            have Z3 := BW.cell r3
            refine wp_region_below (by kernel_rfl) (by kernel_rfl) ?_
            repeat (go_big_quiet_step (fail))
            refine wpQuiet_nil ?_
            intro _ hw
            obtain ⟨p2, hw2⟩ := hw
            subst hw2
            go_wp2
            go_roundw
            case rel => exact ⟨q + 1, by omega, by go_num, hid (BK.out (Below.next p.be p2.be))⟩
            case measure => simp only [intOf]; omega
          · have kp : decide (0 < r.k) = false := by simp; omega
            clear s2 s3 k6 kr kp0
            haveI : Inhabited (BW wr) := ⟨⟨wr, Below.refl _ _⟩⟩
            have X0 := BW.cell d0
            have X1 := BW.cell d1
            have Xt := BW.cell ht
            go_wp2
            refine wp_region_below (by kernel_rfl) (by kernel_rfl) ?_
            repeat (go_big_quiet_step (first | (go_at_call 22; exact bw_of (holds_full (VS.out.keep (BW.be _)) hn RX.out rfl)) | fail))
            refine wpQuiet_nil ?_
            intro _ hw
            obtain ⟨p, hw2⟩ := hw
            subst hw2
            haveI : Inhabited (BW p.w) := ⟨⟨p.w, Below.refl _ _⟩⟩
            have d0 := X0 p
            have d1 := X1 p
            have r0 := (p.be.cell (cell_lt r0)).trans r0
            have r1 := (p.be.cell (cell_lt r1)).trans r1
            have r2 := (p.be.cell (cell_lt r2)).trans r2
            have r3 := (p.be.cell (cell_lt r3)).trans r3
            have VS := hid (VS.out.keep p.be)
            clear X0 X1 Xt ht
            go_wp2
            have Y0 := BW.cell d0
            have Y1 := BW.cell d1
            have Z1 := BW.cell r1
            have Z2 := BW.cell r2
            have Z3 := BW.cell r3
            refine wp_region_below (by kernel_rfl) (by kernel_rfl) ?_
            repeat (go_big_quiet_step (fail))
            refine wpQuiet_nil ?_
            intro _ hw
            obtain ⟨p2, hw2⟩ := hw
            subst hw2
            go_wp2
            go_roundw
            case rel => exact ⟨q + 1, by omega, by go_num, hid (BK.out (Below.next p.be p2.be))⟩
            case measure => simp only [intOf]; omega
    · go_wp2
      go_ret
      exact ⟨rfl, hid st.out.be⟩

end Go.Proofs.Ythdiajdphnjdoaa
