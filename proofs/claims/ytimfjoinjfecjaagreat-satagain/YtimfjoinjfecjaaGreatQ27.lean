/-
  use: with which conflict clauses played a part last.
  Clauses, all together (stage 4): what the statements of stage 14 ask of the document.
-/
import Derived.Test.YtimfjoinjfecjaaGreatQ26
import Derived.Test.YtimfjoinjfecjaaGreatQ16
import Derived.Deep.Grids
import Derived.BigQuiet
import Derived.Laws.BitsLemmas
import Derived.ProofKit

namespace Go.Proofs.YtimfjoinjfecjaaGreat
open Go.RowKit Go.Maps
set_option linter.unusedVariables false

def use1 (fst : Nat) (x : Int) (fs : List Fa) (n : Int) : List Fa :=
  if (fst : Int) ≤ n then (match fs[(n - fst).toNat]? with
    | some f => fs.set (n - fst).toNat { f with a := x }
    | none => fs) else fs
def usesF (fst : Nat) (x : Int) (fs : List Fa) (xs : List Int) : List Fa := xs.foldl (use1 fst x) fs

theorem use1_len (fst : Nat) (x : Int) (fs : List Fa) (n : Int) : (use1 fst x fs n).length = fs.length := by
  unfold use1
  split
  · split <;> simp
  · rfl
theorem uses_len (fst : Nat) (x : Int) (xs : List Int) : ∀ fs : List Fa, (usesF fst x fs xs).length = fs.length := by
  induction xs with
  | nil => intro fs; rfl
  | cons y xs ih => intro fs; show (usesF fst x (use1 fst x fs y) xs).length = _; rw [ih, use1_len]
theorem uses_next {fst : Nat} {x : Int} {fs : List Fa} {xs : List Int} {q : Nat} {y : Int} (h : xs[q]? = some y) : usesF fst x fs (xs.take (q + 1)) = use1 fst x (usesF fst x fs (xs.take q)) y := by
  rw [List.take_add_one, h]
  simp [usesF, List.foldl_append]

section
variable {c : SC} {w0 w w' : World} {g g' : G} {s s' : SS} {m m' : MV}

theorem OwnL.set_ne {B : Nat} {v : Value} {xs : List Int} {a : Addr} {x : Value} {T : TypeId} (h : OwnL w B v xs) (ht : Typ w a.block T) (hT : T ≠ 3) : OwnL (w.setCell a x) B v xs :=
  OwnL.same h (fun j e => set_other x (fun q => by subst q; exact hT (ht.one (own_typ h e))))

theorem own_row {B : Nat} {ao : Option Addr} {n cap : Nat} {xs : List Int} (h : OwnL w B (.slice ao n cap) xs) : n = xs.length ∧ ∀ q, q < n → ∃ b y, ao = some ⟨b, 0, none⟩ ∧ xs[q]? = some y ∧ w.cell? ⟨b, q, none⟩ = some (.int .i64 y) := by
  rcases h.2 with ⟨e, h2⟩ | ⟨b, cp, cur, e, _, hg, h1, h2, h3, h4⟩
  · cases e; exact ⟨by omega, fun q hq => by omega⟩
  · cases e
    refine ⟨rfl, fun q hq => ⟨b, xs[q], rfl, List.getElem?_eq_getElem hq, ?_⟩⟩
    have : (xs.map (Value.int .i64))[q]? = some (.int .i64 xs[q]) := by simp
    rw [← h4] at this
    rw [cell_of hg, ← this]
    simp [hq]

set_option maxHeartbeats 2000000 in
theorem use_is (h : Sm c w0 g s m w) {B : Nat} {ao : Option Addr} {n cap : Nat} {xs : List Int} (own : OwnL w B (.slice ao n cap) xs) (x : Int) (hx : ∀ y ∈ xs, (c.fst : Int) ≤ y → y - c.fst < s.fs.length) (hfit : ∀ y ∈ xs, -9223372036854775808 ≤ y ∧ y ≤ 9223372036854775807) (hn : n ≤ 1000000) (hf : c.fst ≤ 1000000) (hl : s.fs.length ≤ 1000000) :
    Calls Tryz.prog 53 #[.pointer (some ⟨c.SB, 4, none⟩), .slice ao n cap, .int .i64 x] w fun e w' => e = .returned (.tuple #[]) ∧ Nx c w0 w m g (s.F (usesF c.fst x s.fs xs)) w' := by
  have hlen := hid (own_row own).1
  have HX := hid hx
  have HF := hid hfit
  have H := hid h
  have O := hid own
  clear hx h own hfit
  go_enter Tryz.func53, Tryz.ntmps53
  go_wp2
  go_loopw [10] (fun i wr => ∃ (q : Nat) (m1 : MV), q ≤ n ∧ i = .int .i64 q ∧ Hid (Sm c w0 g (s.F (usesF c.fst x s.fs (xs.take q))) m1 wr) ∧ Hid (Kp w0 w m.ow wr m1.ow) ∧ Hid (OwnL wr B (.slice ao n cap) xs)) (fun i _ => n - (intOf i).toNat)
  case atStart => exact ⟨0, m, Nat.zero_le _, rfl, H, hid (Kp.refl _ _ _), O⟩
  case round =>
    clear H O
    obtain ⟨q, m1, hq, rfl, h1, k1, o1⟩ := hrel
    by_cases hlt : q < n
    · have hlt' : (q : Int) < n := by omega
      obtain ⟨b, y, rfl, hy, hc⟩ := (own_row o1.out).2 q hlt
      have hym := List.mem_of_getElem? hy
      have c4 := h1.out.c4
      obtain ⟨y0, y1⟩ := HF.out y hym
      by_cases hge : (c.fst : Int) ≤ y
      · obtain ⟨i, hi⟩ : ∃ i : Nat, y = c.fst + i := ⟨(y - c.fst).toNat, by omega⟩
        have hil : i < s.fs.length := by have := HX.out y hym hge; omega
        have hil2 : i < (usesF c.fst x s.fs (xs.take q)).length := by rw [uses_len]; exact hil
        obtain ⟨f, hf1⟩ : ∃ f, (usesF c.fst x s.fs (xs.take q))[i]? = some f := ⟨_, List.getElem?_eq_getElem hil2⟩
        have HU : Hid (usesF c.fst x s.fs (xs.take (q + 1)) = (usesF c.fst x s.fs (xs.take q)).set i { f with a := x }) := hid (by
          rw [uses_next hy]
          unfold use1
          have e : (y - c.fst).toNat = i := by omega
          rw [if_pos hge, e, hf1])
        obtain ⟨fb, fcap, efv⟩ : ∃ fb fcap, m1.fv = .slice (some ⟨fb, 0, none⟩) (usesF c.fst x s.fs (xs.take q)).length fcap := by
          rcases h1.out.fa.1.2 with ⟨_, e2⟩ | ⟨b', cp, cur, e, _⟩
          · exact absurd e2 (by show (usesF c.fst x s.fs (xs.take q)).length ≠ 0; omega)
          · exact ⟨b', cp, e⟩
        obtain ⟨m2, h2, k2⟩ := h1.out.xputf efv hil2 x hf1
        have ht : Typ wr fb 105 := own_typ h1.out.fa.1 (by rw [efv]; rfl)
        have o2 := hid (o1.out.set_ne (a := ⟨fb, i * 3 + 2, none⟩) (x := .int .i64 x) ht (by decide))
        have H2 : Hid (Sm c w0 g (s.F (usesF c.fst x s.fs (xs.take (q + 1)))) m2 (wr.setCell ⟨fb, i * 3 + 2, none⟩ (.int .i64 x))) := hid (by rw [HU.out]; exact h2)
        obtain ⟨m3, h3, k3⟩ := H2.out.xbelow (below_drew _)
        have H3 := hid h3
        have K3 := hid ((k1.out.trans k2).trans k3)
        have O3 := hid (OwnL.same (w' := (wr.setCell ⟨fb, i * 3 + 2, none⟩ (.int .i64 x)).drew) o2.out (fun _ _ => rfl))
        have c5 := h1.out.c5
        rw [efv, uses_len] at c5
        obtain ⟨cc, hcc, hsz⟩ : ∃ cc, wr.heap[fb]? = some (.cells cc 105 (0, 0)) ∧ s.fs.length * 3 ≤ cc.size := by
          rcases h1.out.fa.1.2 with ⟨e, _⟩ | ⟨b', cp, cur, e, _, hg, g1, g2, g3, g4⟩
          · rw [efv] at e; cases e
          · rw [efv] at e; cases e
            refine ⟨cur, hg, ?_⟩
            have : (s.F (usesF c.fst x s.fs (xs.take q))).fs.length = s.fs.length := uses_len _ _ _ _
            rw [g3]; omega
        obtain ⟨z, cx⟩ : ∃ z, wr.cell? ⟨fb, i * 3 + 2, none⟩ = some z := by
          rw [cell_of hcc]
          exact ⟨_, Array.getElem?_eq_getElem (by omega)⟩
        have fx : wr.frozen? ⟨fb, i * 3 + 2, none⟩ = false := frozen_of hcc
        have hil' : (i : Int) < s.fs.length := by omega
        obtain ⟨fl, hfl⟩ : ∃ fl, s.fs.length = fl := ⟨_, rfl⟩
        rw [hfl] at hil' hl c5
        subst hi
        have hge' : decide ((c.fst : Int) ≤ c.fst + i) = true := decide_eq_true hge
        have e1 : ((i : Nat) : Int) * 3 + 2 = ((i * 3 + 2 : Nat) : Int) := by omega
        clear h3 k3 H2 h2 k2 hf1 efv ht hcc h1 k1 o1 hy hym hil2 hil hfl hge HU
        have ew : IntKind.i64.wrap ((c.fst : Int) + i - c.fst) = (i : Int) := by rw [IntKind.wrap_i64]; omega
        go_wp2
        go_region
        all_goals go_wp2
        all_goals go_roundw
        all_goals first
          | exact ⟨q + 1, m3, by omega, by go_num, H3, K3, O3⟩
          | (simp only [intOf]; omega)
          | trace_state
      · have hge' : decide ((c.fst : Int) ≤ y) = false := decide_eq_false hge
        have HU : Hid (usesF c.fst x s.fs (xs.take (q + 1)) = usesF c.fst x s.fs (xs.take q)) := hid (by
          rw [uses_next hy]; unfold use1; rw [if_neg hge])
        have H2 : Hid (Sm c w0 g (s.F (usesF c.fst x s.fs (xs.take (q + 1)))) m1 wr) := hid (by rw [HU.out]; exact h1.out)
        clear hge hy hym h1 HU
        go_wp2
        go_roundw
        case rel => exact ⟨q + 1, m1, by omega, by go_num, H2, k1, o1⟩
        case measure => simp only [intOf]; omega
    · have HT : Hid (xs.take q = xs) := hid (List.take_of_length_le (by rw [← hlen.out]; omega))
      have HE : Hid (Nx c w0 w m g (s.F (usesF c.fst x s.fs xs)) wr) := hid ⟨m1, by have := h1.out; rw [HT.out] at this; exact this, k1.out⟩
      clear h1 k1 o1 HT
      go_wp2
      go_end0
      exact ⟨rfl, HE.out⟩
end
end Go.Proofs.YtimfjoinjfecjaaGreat

namespace Go.Proofs.YtimfjoinjfecjaaGreat.U
open Go.RowKit
set_option linter.unusedVariables false

/-- A cell of the list, by its block and place. -/
theorem IsBools.at {w : World} {a : Option Addr} {len cap : Nat} {B : Nat → Bool} (h : IsBools w a len cap B) {k : Nat} (hk : k < len) : ∃ b off, a = some ⟨b, off, none⟩ ∧ w.cell? ⟨b, off + k, none⟩ = some (.bool (B k)) := by
  rcases h with ⟨_, h, _⟩ | ⟨⟨b, off, spot⟩, rfl, hl, hm, hc⟩
  · omega
  · have hz := hc 0 (by omega)
    have hk := hc k hk
    have hspot : spot = none := by simpa [Addr.add] using World.cell?_spot hz
    subst hspot
    refine ⟨b, off, rfl, ?_⟩
    by_cases h0 : k = 0
    · subst h0; simpa [Addr.add] using hk
    · simpa [Addr.add, h0] using hk


def badV (vars x : Int) : Bool := decide (varF x < 0) || decide (vars ≤ varF x)
def badC (vars : Int) (xs : List Int) : Bool := xs.any (badV vars)
def badG (vars : Int) (xss : List (List Int)) : Bool := xss.any (badC vars)
def chkF (vars : Int) (xss : List (List Int)) : Int := if vars < 0 ∨ 1048576 < vars then 10 else if 1048576 < xss.length then 8 else if badG vars xss = true then 10 else 0
def mayF (vars : Int) (xss : List (List Int)) : Int := if chkF vars xss = 0 then (if 16 < vars then 8 else 0) else chkF vars xss

def cntF (p : Nat → Bool) (n : Nat) : Nat := (List.range n).countP p
/-! ### Any, place by place -/






/-! ### Count and first -/
/-! ### Truths by bits -/
/-! ### The sides of a clause -/
theorem good_lit {vars : Int} {xs : List Int} (h : badC vars xs = false) {x : Int} (hx : x ∈ xs) : 0 ≤ x ∧ varF x = x / 2 ∧ 0 ≤ varF x ∧ varF x < vars := by
  have := List.any_eq_false.1 h x hx
  simp only [badV, Bool.or_eq_true, decide_eq_true_eq, not_or] at this
  have h0 : ¬ x < 0 := by
    intro hn
    have : varF x = -1 := by simp [varF, hn]
    omega
  have e : varF x = x / 2 := by simp [varF, h0]
  omega

/-! ### All parts of the free variables -/
/-! ### One clause more, that a literal holds -/
theorem chk_low {vars : Int} (xss : List (List Int)) (h : vars < 0 ∨ 1048576 < vars) : chkF vars xss = 10 := by simp only [chkF]; rw [if_pos h]

theorem chk_many {vars : Int} {xss : List (List Int)} (h : ¬ vars < 0) (h2 : ¬ 1048576 < vars) (h3 : 1048576 < xss.length) : chkF vars xss = 8 := by simp only [chkF]; rw [if_neg (by omega), if_pos h3]

theorem chk_bad {vars : Int} {xss : List (List Int)} (h : ¬ vars < 0) (h2 : ¬ 1048576 < vars) (h3 : ¬ 1048576 < xss.length) (h4 : badG vars xss = true) : chkF vars xss = 10 := by simp only [chkF]; rw [if_neg (by omega), if_neg h3, if_pos h4]

theorem chk_good {vars : Int} {xss : List (List Int)} (h : ¬ vars < 0) (h2 : ¬ 1048576 < vars) (h3 : ¬ 1048576 < xss.length) (h4 : badG vars xss = false) : chkF vars xss = 0 := by simp only [chkF]; rw [if_neg (by omega), if_neg h3, h4]; rfl

theorem bad_one {vars y : Int} {ys : List Int} {xss : List (List Int)} {k j : Nat} (hk : xss[k]? = some ys) (hj : ys[j]? = some y) (h : badV vars y = true) : badG vars xss = true :=
  gany_hit hk (gany_hit hj h)

set_option maxHeartbeats 4000000 in
theorem check_any (vars : Int) (ao : Option Addr) (n cap : Nat) (xss : List (List Int)) (w : World) (h : Grid w ao n cap xss) :
    Calls Tryz.prog 16 #[.int .i64 vars, .slice ao n cap] w fun e w' => e = .returned (.int .i64 (chkF vars xss)) ∧ Below w.heap.size w w' := by
  have HR : Hid (Grid w ao n cap xss) := h
  have HN : Hid (xss.length = n) := h.1
  have hm := h.max
  clear h
  by_cases h0 : vars < 0
  · have HV : Hid (chkF vars xss = 10) := chk_low xss (.inl h0)
    go_enter Tryz.func16, Tryz.ntmps16
    go_wp2
    go_step3
    go_wp2
    rw [Exit.noGoto_ret]
    go_ret
    exact ⟨by rw [HV.out]; rfl, Below.refl _ _⟩
  by_cases h1 : 1048576 < vars
  · have HV : Hid (chkF vars xss = 10) := chk_low xss (.inr h1)
    go_enter Tryz.func16, Tryz.ntmps16
    go_wp2
    go_step3
    go_wp2
    rw [Exit.noGoto_ret]
    go_ret
    exact ⟨by rw [HV.out]; rfl, Below.refl _ _⟩
  by_cases h2 : 1048576 < n
  · have HV : Hid (chkF vars xss = 8) := chk_many h0 h1 (by rw [HN.out]; exact h2)
    have h2' : (1048576 : Int) < n := by omega
    go_enter Tryz.func16, Tryz.ntmps16
    go_wp2
    go_step3
    go_wp2
    rw [Exit.noGoto_ret]
    go_ret
    exact ⟨by rw [HV.out]; rfl, Below.refl _ _⟩
  have H3 : Hid (¬ 1048576 < xss.length) := by show ¬ _; rw [HN.out]; exact h2
  have h2' : ¬ (1048576 : Int) < n := by omega
  go_enter Tryz.func16, Tryz.ntmps16
  go_wp2
  go_step3
  go_wp2
  go_step3
  go_wp2
  go_loopw [5, 22] (fun e i wr => ∃ k : Nat, k ≤ n ∧ e = .int .i64 0 ∧ i = .int .i64 k ∧ Hid ((xss.take k).any (badC vars) = false) ∧ Below w.heap.size w wr) (fun _ i _ => n - (intOf i).toNat)
  case atStart => exact ⟨0, Nat.zero_le _, rfl, rfl, rfl, Below.refl _ _⟩
  case round =>
    obtain ⟨k, hk, rfl, rfl, hno, hb⟩ := hrel
    by_cases hlt : k < n
    · obtain ⟨b, off, a1, m1, c1, ys, rfl, hc, hy, hr⟩ := HR.out.at hlt
      have hc1 := (hb.cell (cell_lt hc)).trans hc
      have hm2 := hr.out.max
      clear hc
      go_wp2
      go_loopw [5, 28] (fun e i wr => ∃ j : Nat, j ≤ m1 ∧ e = .int .i64 0 ∧ i = .int .i64 j ∧ Hid ((ys.take j).any (badV vars) = false) ∧ Below w.heap.size w wr) (fun _ i _ => m1 - (intOf i).toNat)
      case atStart => exact ⟨0, Nat.zero_le _, rfl, rfl, rfl, hb⟩
      case round =>
        clear hc1
        obtain ⟨j, hj, rfl, rfl, hnj, hbj⟩ := hrel
        by_cases hjt : j < m1
        · obtain ⟨b2, off2, y, rfl, hc2, hz, _, hu⟩ := (hr.out.keep hbj).at hjt
          by_cases v0 : varF y < 0
          · have HV : Hid (chkF vars xss = 10) := chk_bad (by omega) (by omega) H3.out (bad_one hy.out hz.out (by simp [badV, v0]))
            go_wp2_with (go_at_call 24; with_reducible (refine (var_any _ _ hu).mono ?_); rintro e w1 ⟨rfl, hb1⟩)
            rw [Exit.noGoto_ret]
            go_ret
            exact ⟨by rw [HV.out]; rfl, Below.next hbj hb1⟩
          by_cases v1 : vars ≤ varF y
          · have HV : Hid (chkF vars xss = 10) := chk_bad (by omega) (by omega) H3.out (bad_one hy.out hz.out (by simp [badV, v1]))
            go_wp2_with (go_at_call 24; with_reducible (refine (var_any _ _ hu).mono ?_); rintro e w1 ⟨rfl, hb1⟩)
            rw [Exit.noGoto_ret]
            go_ret
            exact ⟨by rw [HV.out]; rfl, Below.next hbj hb1⟩
          have HV : Hid ((ys.take (j + 1)).any (badV vars) = false) := gany_step hnj.out hz.out (by simp [badV, v0, v1])
          go_wp2_with (go_at_call 24; with_reducible (refine (var_any _ _ hu).mono ?_); rintro e w1 ⟨rfl, hb1⟩)
          go_roundw
          case rel => exact ⟨j + 1, by omega, rfl, by go_num, HV, Below.next hbj hb1⟩
          case measure => simp [intOf]; omega
        · have HV : Hid ((xss.take (k + 1)).any (badC vars) = false) := gany_step hno.out hy.out (gany_end hnj.out (by rw [hr.out.1]; omega))
          go_wp2
          go_roundw
          case rel => exact ⟨k + 1, by omega, rfl, by go_num, HV, hbj⟩
          case measure => simp [intOf]; omega
    · have HV : Hid (chkF vars xss = 0) := chk_good (by omega) (by omega) H3.out (gany_end hno.out (by rw [HN.out]; omega))
      go_wp2
      rw [Exit.noGoto_ret]
      go_ret
      exact ⟨by rw [HV.out]; rfl, hb⟩

set_option maxHeartbeats 1000000 in
theorem bools_same (ao bo : Option Addr) (n cap cbp : Nat) (B : Nat → Bool) (w : World) (h : IsBools w ao n cap B) (g : IsBools w bo n cbp B) (hn : n ≤ 65536) :
    Calls Tryz.prog 14 #[.slice ao n cap, .slice bo n cbp] w fun e w' => e = .returned (.bool true) ∧ Below w.heap.size w w' := by
  have HR : Hid (IsBools w ao n cap B) := h
  have GR : Hid (IsBools w bo n cbp B) := g
  clear h g
  go_enter Tryz.func14, Tryz.ntmps14
  go_wp2
  go_loopw [5] (fun i wr => ∃ k : Nat, k ≤ n ∧ i = .int .i64 k ∧ Below w.heap.size w wr) (fun i _ => n - (intOf i).toNat)
  case atStart => exact ⟨0, Nat.zero_le _, rfl, Below.refl _ _⟩
  case round =>
    obtain ⟨k, hk, rfl, hb⟩ := hrel
    by_cases hlt : k < n
    · obtain ⟨b, off, rfl, hc⟩ := (HR.out.keep hb).at hlt
      obtain ⟨c, ogg, rfl, gc⟩ := (GR.out.keep hb).at hlt
      go_wp2
      go_region
      all_goals go_wp2
      all_goals go_roundw
      all_goals first | exact ⟨k + 1, by omega, by go_num, by first | exact hb | exact hb.drew | exact hb.drew.drew⟩ | (simp [intOf]; omega)
    · go_wp2
      go_ret
      exact ⟨rfl, hb⟩

end Go.Proofs.YtimfjoinjfecjaaGreat.U
