/-
  Clauses, all together (stage 4): what the statements of stage 14 ask of the document.
-/
import Derived.Test.YtimfjoinjfecjaaGreatG18
import Derived.Deep.Grids
import Derived.BigQuiet
import Derived.Laws.BitsLemmas
import Derived.ProofKit

namespace Go.Proofs.YtimfjoinjfecjaaGreat.U
open Go.RowKit
set_option linter.unusedVariables false

theorem Tryz.info4 : (Tryz.prog.info? 4).map (fun i => (i.zero, i.size, i.bytes)) = some (some (.bool false), 1, 1) := by kernel_rfl

/-- A cell of the list, by its block and place. -/
theorem IsBools.at {w : World} {a : Option Addr} {len cap : Nat} {B : Nat → Bool} (h : IsBools w a len cap B) {k : Nat} (hk : k < len) : ∃ b off, a = some ⟨b, off, none⟩ ∧ w.cell? ⟨b, off + k, none⟩ = some (.bool (B k)) := by
  rcases h with ⟨_, h, _⟩ | ⟨⟨b, off, spot⟩, rfl, hl, hm, hc⟩
  · omega
  · have hz := hc 0 (by omega)
    have hk := hc k hk
    have hspot : spot = none := by simpa [Addr.add] using World.cell?_spot hz
    subst hspot
    refine ⟨b, off, rfl, ?_⟩
    by_cases h0 : k = 0
    · subst h0; simpa [Addr.add] using hk
    · simpa [Addr.add, h0] using hk


theorem rvar_any (l : Int) (w : World) (hu : l ≤ 9223372036854775807) : Calls Tryz.prog 64 #[.int .i64 l] w fun e w' => e = .returned (.int .i64 (varF l)) ∧ w' = w := by
  by_cases h : l < 0
  · have HV : Hid (varF l = -1) := by show varF l = -1; simp [varF, h]
    go_enter Tryz.func64, Tryz.ntmps64
    go_wp2
    go_ret
    exact ⟨by rw [HV.out]; rfl, rfl⟩
  · have HV : Hid (varF l = l / 2) := by show varF l = l / 2; simp [varF, h]
    go_enter Tryz.func64, Tryz.ntmps64
    go_wp2
    go_ret
    exact ⟨by rw [HV.out]; rfl, rfl⟩

theorem rneg_any (l : Int) (w : World) (hu : l ≤ 9223372036854775807) : Calls Tryz.prog 65 #[.int .i64 l] w fun e w' => e = .returned (.bool (negF l)) ∧ w' = w := by
  by_cases h : l < 0
  · have HV : Hid (negF l = false) := by show negF l = false; simp [negF]; omega
    have h0 : ¬ 0 ≤ l := by omega
    go_enter Tryz.func65, Tryz.ntmps65
    go_wp2
    go_ret
    exact ⟨by rw [HV.out]; rfl, rfl⟩
  · have HV : Hid (negF l = (l % 2 == 1)) := by show negF l = (l % 2 == 1); rw [Bool.eq_iff_iff]; simp [negF]; omega
    have h0 : 0 ≤ l := by omega
    go_enter Tryz.func65, Tryz.ntmps65
    go_wp2
    go_ret
    exact ⟨by rw [HV.out]; rfl, rfl⟩

theorem rholds_any (l : Int) (w : World) (a : Option Addr) (len cap : Nat) (B : Nat → Bool) (hB : IsBools w a len cap B) (hu : l ≤ 9223372036854775807) : Calls Tryz.prog 38 #[.int .i64 l, .slice a len cap] w fun e w' => e = .returned (.bool (holF l len B)) ∧ w' = w := by
  by_cases h : l < 0
  · have HV : Hid (holF l len B = false) := by show holF l len B = false; simp [holF, h]
    clear hB
    go_enter Tryz.func38, Tryz.ntmps38
    go_wp2
    go_ret
    exact ⟨by rw [HV.out]; rfl, rfl⟩
  have q : varF l = l / 2 := by simp [varF, h]
  obtain ⟨k, hk⟩ := Int.eq_ofNat_of_zero_le (show 0 ≤ varF l by omega)
  have HE : Hid (holF l len B = (truF k len B != negF l)) := by show _ = _; simp [holF, h, ← q, hk]
  clear q
  by_cases hl : k < len
  · obtain ⟨b, off, rfl, hc⟩ := hB.at hl
    have HV : Hid (holF l len B = (B k != negF l)) := by show _ = _; rw [HE.out]; simp [truF, hl]
    have hl' : (k : Int) < len := by omega
    clear hB hl
    go_enter Tryz.func38, Tryz.ntmps38
    go_wp2_with (first | (go_at_call 65; refine (rneg_any _ _ hu).mono ?_; rintro e w'' ⟨rfl, rfl⟩) | (go_at_call 64; refine (rvar_any _ _ hu).mono ?_; rintro e w'' ⟨rfl, rfl⟩))
    go_ret
    exact ⟨by rw [HV.out]; rfl, rfl⟩
  · have HV : Hid (holF l len B = (false != negF l)) := by show _ = _; rw [HE.out]; simp [truF, hl]
    have hl' : ¬ (k : Int) < len := by omega
    clear hB hl
    go_enter Tryz.func38, Tryz.ntmps38
    go_wp2_with (first | (go_at_call 65; refine (rneg_any _ _ hu).mono ?_; rintro e w'' ⟨rfl, rfl⟩) | (go_at_call 64; refine (rvar_any _ _ hu).mono ?_; rintro e w'' ⟨rfl, rfl⟩))
    go_ret
    exact ⟨by rw [HV.out, Bool.false_bne]; rfl, rfl⟩


theorem rholdsL_any (ao : Option Addr) (n cap : Nat) (xs : List Int) (w : World) (h : Row w ao n cap xs) (a : Option Addr) (len bap : Nat) (B : Nat → Bool) (hB : IsBools w a len bap B) :
    Calls Tryz.prog 19 #[.slice ao n cap, .slice a len bap] w fun e w' => e = .returned (.bool (holdsF xs len B)) ∧ w' = w := by
  have HR : Hid (Row w ao n cap xs) := h
  have HB : Hid (IsBools w a len bap B) := hB
  have hm := h.max
  clear h hB
  go_enter Tryz.func19, Tryz.ntmps19
  go_wp2
  go_loop [5] (fun i => ∃ k : Nat, k ≤ n ∧ i = .int .i64 k ∧ Hid (holdsF (xs.take k) len B = false)) (fun i => n - (intOf i).toNat)
  case atStart => exact ⟨0, Nat.zero_le _, rfl, rfl⟩
  case round =>
    obtain ⟨k, hk, rfl, hno⟩ := hrel
    by_cases hlt : k < n
    · obtain ⟨b, off, y, rfl, hc, hy, _, hu⟩ := HR.out.at hlt
      cases he : holF y len B
      · have HV : Hid (holdsF (xs.take (k + 1)) len B = false) := any_step hno.out hy.out he
        go_wp2_with (go_at_call 38; with_reducible (refine (rholds_any _ _ _ _ _ B HB.out hu).mono ?_); rintro e w1 ⟨rfl, rfl⟩)
        go_round
        case rel => exact ⟨k + 1, by omega, by go_num, HV⟩
        case measure => simp [intOf]; omega
      · have HV : Hid (holdsF xs len B = true) := any_hit hy.out he
        go_wp2_with (go_at_call 38; with_reducible (refine (rholds_any _ _ _ _ _ B HB.out hu).mono ?_); rintro e w1 ⟨rfl, rfl⟩)
        go_ret
        exact ⟨by rw [HV.out]; rfl, rfl⟩
    · have HV : Hid (holdsF xs len B = false) := any_end hno.out (by rw [HR.out.1]; omega)
      go_wp2
      go_ret
      exact ⟨by rw [HV.out]; rfl, rfl⟩



def badV (vars x : Int) : Bool := decide (varF x < 0) || decide (vars ≤ varF x)
def badC (vars : Int) (xs : List Int) : Bool := xs.any (badV vars)
def badG (vars : Int) (xss : List (List Int)) : Bool := xss.any (badC vars)
def chkF (vars : Int) (xss : List (List Int)) : Int := if vars < 0 ∨ 1048576 < vars then 10 else if 1048576 < xss.length then 8 else if badG vars xss = true then 10 else 0
def mayF (vars : Int) (xss : List (List Int)) : Int := if chkF vars xss = 0 then (if 16 < vars then 8 else 0) else chkF vars xss

def missF (len : Nat) (B : Nat → Bool) (xs : List Int) : Bool := !holdsF xs len B
def fstN (xss : List (List Int)) (len : Nat) (B : Nat → Bool) : Int := match xss.findIdx? (missF len B) with
  | some i => (i : Int)
  | none => -1

def okF (vars : Nat) (xss : List (List Int)) (i : Nat) : Bool := !(xss.any (missF vars (fun v => i.testBit v)))
def cntF (p : Nat → Bool) (n : Nat) : Nat := (List.range n).countP p
def firF (p : Nat → Bool) (n : Nat) : Int := match (List.range n).find? p with
  | some i => (i : Int)
  | none => -1
def tbL (vars i : Nat) : List Bool := (List.range vars).map (fun v => i.testBit v)

/-! ### Any, place by place -/






theorem fstN_hit {xss : List (List Int)} {len : Nat} {B : Nat → Bool} {k : Nat} {xs : List Int} (h : (xss.take k).any (missF len B) = false) (hy : xss[k]? = some xs) (hp : missF len B xs = true) : fstN xss len B = k := by
  obtain ⟨hk, rfl⟩ := List.getElem?_eq_some_iff.1 hy
  have e : xss.findIdx? (missF len B) = some k := by
    rw [List.findIdx?_eq_some_iff_getElem]
    refine ⟨hk, hp, fun j hj => ?_⟩
    rw [List.any_eq_false] at h
    exact h _ (List.mem_take_iff_getElem.2 ⟨j, by omega, rfl⟩)
  rw [fstN, e]

theorem fstN_end {xss : List (List Int)} {len : Nat} {B : Nat → Bool} (h : xss.any (missF len B) = false) : fstN xss len B = -1 := by
  have e : xss.findIdx? (missF len B) = none := by
    rw [List.findIdx?_eq_none_iff]
    intro x hx
    rw [List.any_eq_false] at h
    simpa using h x hx
  rw [fstN, e]

theorem fstN_neg (xss : List (List Int)) (len : Nat) (B : Nat → Bool) : decide (fstN xss len B < 0) = !(xss.any (missF len B)) := by
  cases h : xss.any (missF len B)
  · rw [fstN_end h]; rfl
  · have : ∃ i, xss.findIdx? (missF len B) = some i := by
      cases e : xss.findIdx? (missF len B)
      · rw [List.findIdx?_eq_none_iff] at e
        obtain ⟨x, hx, hp⟩ := List.any_eq_true.1 h
        rw [e x hx] at hp; simp at hp
      · exact ⟨_, rfl⟩
    obtain ⟨i, e⟩ := this
    rw [fstN, e]
    simp

/-! ### Count and first -/
theorem cnt_yes {p : Nat → Bool} {k : Nat} (h : p k = true) : cntF p (k + 1) = cntF p k + 1 := by simp [cntF, List.range_succ, List.countP_append, h]
theorem cnt_no {p : Nat → Bool} {k : Nat} (h : p k = false) : cntF p (k + 1) = cntF p k := by simp [cntF, List.range_succ, List.countP_append, h]
theorem cnt_le (p : Nat → Bool) (k : Nat) : cntF p k ≤ k := by
  have := List.countP_le_length (p := p) (l := List.range k); simpa [cntF] using this

theorem fir_zero (p : Nat → Bool) : firF p 0 = -1 := rfl
theorem fir_no {p : Nat → Bool} {k : Nat} (h : p k = false) : firF p (k + 1) = firF p k := by
  simp only [firF, List.range_succ, List.find?_append]
  cases (List.range k).find? p <;> simp [h]
theorem fir_new {p : Nat → Bool} {k : Nat} (h : p k = true) (h0 : firF p k < 0) : firF p (k + 1) = k := by
  simp only [firF] at h0
  simp only [firF, List.range_succ, List.find?_append]
  cases e : (List.range k).find? p
  · simp [h]
  · rw [e] at h0; simp only at h0; omega
theorem fir_old {p : Nat → Bool} {k : Nat} (h0 : ¬ firF p k < 0) : firF p (k + 1) = firF p k := by
  simp only [firF] at h0
  simp only [firF, List.range_succ, List.find?_append]
  cases e : (List.range k).find? p
  · rw [e] at h0; simp at h0
  · simp
theorem fir_lt (p : Nat → Bool) (n : Nat) : firF p n < 0 ∧ firF p n = -1 ∨ ∃ i, i < n ∧ firF p n = (i : Int) ∧ p i = true := by
  simp only [firF]
  cases e : (List.range n).find? p
  · exact .inl ⟨by simp, rfl⟩
  · rename_i i
    refine .inr ⟨i, ?_, rfl, List.find?_some e⟩
    have := List.mem_of_find?_eq_some e
    simpa using this
theorem fir_none {p : Nat → Bool} {n : Nat} (h : ∀ j, j < n → p j = false) : firF p n = -1 := by
  simp only [firF]
  have e : (List.range n).find? p = none := by
    rw [List.find?_eq_none]
    intro x hx
    rw [h x (by simpa using hx)]; simp
  rw [e]
theorem fir_at {p : Nat → Bool} {n k : Nat} (hk : k < n) (hp : p k = true) (h : ∀ j, j < k → p j = false) : firF p n = k := by
  have h1 : firF p (k + 1) = k := fir_new hp (by rw [fir_none h]; omega)
  have h2 : ∀ d, firF p (k + 1 + d) = k := by
    intro d
    induction d with
    | zero => exact h1
    | succ d ih => rw [show k + 1 + (d + 1) = (k + 1 + d) + 1 from rfl, fir_old (by rw [ih]; omega), ih]
  have := h2 (n - (k + 1))
  rwa [show k + 1 + (n - (k + 1)) = n by omega] at this

theorem cnt_congr {p q : Nat → Bool} {n : Nat} (h : ∀ j, j < n → p j = q j) : cntF p n = cntF q n := by
  simp only [cntF]
  exact List.countP_congr (fun x hx => by rw [h x (by simpa using hx)])

/-! ### Truths by bits -/
theorem holds_congr {xs : List Int} {len : Nat} {B B' : Nat → Bool} (h : ∀ v, v < len → B v = B' v) : holdsF xs len B = holdsF xs len B' := by
  have e : (fun x => holF x len B) = (fun x => holF x len B') := by
    funext x
    simp only [holF]
    by_cases hx : x < 0
    · simp [hx]
    · simp only [hx, if_false, truF]
      by_cases hl : x / 2 < (len : Int)
      · rw [h (x / 2).toNat (by omega)]
      · simp [hl]
  simp only [holdsF, e]

theorem miss_congr {len : Nat} {B B' : Nat → Bool} (h : ∀ v, v < len → B v = B' v) : missF len B = missF len B' := by
  funext xs
  simp only [missF, holds_congr (xs := xs) h]

theorem fstN_congr {xss : List (List Int)} {len : Nat} {B B' : Nat → Bool} (h : ∀ v, v < len → B v = B' v) : fstN xss len B = fstN xss len B' := by
  simp only [fstN, miss_congr h]

theorem tbL_get {vars i v : Nat} (h : v < vars) : (tbL vars i).getD v false = i.testBit v := by simp [tbL, h]
theorem tbL_len (vars i : Nat) : (tbL vars i).length = vars := by simp [tbL]
theorem tbL_succ (k i : Nat) : tbL (k + 1) i = tbL k i ++ [i.testBit k] := by simp [tbL, List.range_succ]

/-! ### The sides of a clause -/
def plainB (xs : List Int) : Nat := xs.foldl (fun s x => if negF x = true then s else s ||| 2 ^ (varF x).toNat) 0
def negB (xs : List Int) : Nat := xs.foldl (fun s x => if negF x = true then s ||| 2 ^ (varF x).toNat else s) 0

theorem plain_step0 {xs : List Int} {k : Nat} {y : Int} (hy : xs[k]? = some y) (hn : negF y = true) : plainB (xs.take (k + 1)) = plainB (xs.take k) := by
  rw [List.take_add_one, hy, plainB, plainB, List.foldl_append]; simp [hn]
theorem plain_step1 {xs : List Int} {k : Nat} {y : Int} (hy : xs[k]? = some y) (hn : negF y = false) : plainB (xs.take (k + 1)) = plainB (xs.take k) ||| 2 ^ (varF y).toNat := by
  rw [List.take_add_one, hy, plainB, plainB, List.foldl_append]; simp [hn]
theorem neg_step0 {xs : List Int} {k : Nat} {y : Int} (hy : xs[k]? = some y) (hn : negF y = false) : negB (xs.take (k + 1)) = negB (xs.take k) := by
  rw [List.take_add_one, hy, negB, negB, List.foldl_append]; simp [hn]
theorem neg_step1 {xs : List Int} {k : Nat} {y : Int} (hy : xs[k]? = some y) (hn : negF y = true) : negB (xs.take (k + 1)) = negB (xs.take k) ||| 2 ^ (varF y).toNat := by
  rw [List.take_add_one, hy, negB, negB, List.foldl_append]; simp [hn]

theorem plain_fold (xs : List Int) (s v : Nat) : (xs.foldl (fun s x => if negF x = true then s else s ||| 2 ^ (varF x).toNat) s).testBit v = (s.testBit v || xs.any (fun x => !negF x && decide ((varF x).toNat = v))) := by
  induction xs generalizing s with
  | nil => simp
  | cons x xs ih =>
    rw [List.foldl_cons, ih, List.any_cons]
    cases h : negF x
    · simp [Nat.testBit_or, Nat.testBit_two_pow, Bool.or_assoc]
    · simp
theorem neg_fold (xs : List Int) (s v : Nat) : (xs.foldl (fun s x => if negF x = true then s ||| 2 ^ (varF x).toNat else s) s).testBit v = (s.testBit v || xs.any (fun x => negF x && decide ((varF x).toNat = v))) := by
  induction xs generalizing s with
  | nil => simp
  | cons x xs ih =>
    rw [List.foldl_cons, ih, List.any_cons]
    cases h : negF x
    · simp
    · simp [Nat.testBit_or, Nat.testBit_two_pow, Bool.or_assoc]

theorem plain_bit (xs : List Int) (v : Nat) : (plainB xs).testBit v = true ↔ ∃ x ∈ xs, negF x = false ∧ (varF x).toNat = v := by
  rw [plainB, plain_fold]; simp
theorem neg_bit (xs : List Int) (v : Nat) : (negB xs).testBit v = true ↔ ∃ x ∈ xs, negF x = true ∧ (varF x).toNat = v := by
  rw [negB, neg_fold]; simp

theorem good_lit {vars : Int} {xs : List Int} (h : badC vars xs = false) {x : Int} (hx : x ∈ xs) : 0 ≤ x ∧ varF x = x / 2 ∧ 0 ≤ varF x ∧ varF x < vars := by
  have := List.any_eq_false.1 h x hx
  simp only [badV, Bool.or_eq_true, decide_eq_true_eq, not_or] at this
  have h0 : ¬ x < 0 := by
    intro hn
    have : varF x = -1 := by simp [varF, hn]
    omega
  have e : varF x = x / 2 := by simp [varF, h0]
  omega

theorem good_take {vars : Int} {xs : List Int} (h : badC vars xs = false) (k : Nat) : badC vars (xs.take k) = false := by
  rw [badC, List.any_eq_false] at h ⊢
  exact fun x hx => h x (List.mem_of_mem_take hx)

theorem plain_lt {vars : Nat} {xs : List Int} (h : badC vars xs = false) : plainB xs < 2 ^ vars := by
  refine Nat.lt_pow_two_of_testBit _ fun i hi => ?_
  cases e : (plainB xs).testBit i
  · rfl
  · obtain ⟨x, hx, _, hv⟩ := (plain_bit xs i).1 e
    have := good_lit h hx
    omega
theorem neg_lt {vars : Nat} {xs : List Int} (h : badC vars xs = false) : negB xs < 2 ^ vars := by
  refine Nat.lt_pow_two_of_testBit _ fun i hi => ?_
  cases e : (negB xs).testBit i
  · rfl
  · obtain ⟨x, hx, _, hv⟩ := (neg_bit xs i).1 e
    have := good_lit h hx
    omega

theorem hol_bit {vars : Nat} {xs : List Int} (h : badC vars xs = false) {x : Int} (hx : x ∈ xs) (i : Nat) : holF x vars (fun v => i.testBit v) = (i.testBit (varF x).toNat != negF x) := by
  obtain ⟨h0, e, _, hl⟩ := good_lit h hx
  have hn : ¬ x < 0 := by omega
  rw [e] at hl
  simp only [holF, hn, if_false, truF, hl, decide_true, Bool.true_and, e]

/-- A clause fails where its plain variables are false and its negated ones true. -/
def FailAt (p n i : Nat) : Prop := (∀ v, p.testBit v = true → i.testBit v = false) ∧ ∀ v, n.testBit v = true → i.testBit v = true

theorem fail_iff {vars : Nat} {xs : List Int} (h : badC vars xs = false) (i : Nat) : missF vars (fun v => i.testBit v) xs = true ↔ FailAt (plainB xs) (negB xs) i := by
  have e : missF vars (fun v => i.testBit v) xs = true ↔ ∀ x ∈ xs, i.testBit (varF x).toNat = negF x := by
    simp only [missF, holdsF, Bool.not_eq_true', List.any_eq_false]
    constructor
    · intro g x hx
      have := g x hx
      rw [hol_bit h hx] at this
      simpa using this
    · intro g x hx
      rw [hol_bit h hx, g x hx]; simp
  rw [e]
  constructor
  · intro g
    refine ⟨fun v hv => ?_, fun v hv => ?_⟩
    · obtain ⟨x, hx, hn, rfl⟩ := (plain_bit xs v).1 hv
      rw [g x hx, hn]
    · obtain ⟨x, hx, hn, rfl⟩ := (neg_bit xs v).1 hv
      rw [g x hx, hn]
  · rintro ⟨g1, g2⟩ x hx
    cases hn : negF x
    · exact g1 _ ((plain_bit xs _).2 ⟨x, hx, hn, rfl⟩)
    · exact g2 _ ((neg_bit xs _).2 ⟨x, hx, hn, rfl⟩)

theorem fail_always {p n i : Nat} (h : p &&& n ≠ 0) : ¬ FailAt p n i := by
  rintro ⟨g1, g2⟩
  apply h
  refine Nat.eq_of_testBit_eq fun v => ?_
  rw [Nat.testBit_and, Nat.zero_testBit]
  cases h1 : p.testBit v
  · rfl
  · cases h2 : n.testBit v
    · rfl
    · have a := g1 v h1; have b := g2 v h2; rw [a] at b; simp at b

/-! ### All parts of the free variables -/
def freeB (a q : Nat) : Nat := a &&& (18446744073709551615 - q)

theorem free_bit {vars q : Nat} (hq : q < 18446744073709551616) (v : Nat) (hv : vars ≤ 64) : (freeB (2 ^ vars - 1) q).testBit v = (decide (v < vars) && !q.testBit v) := by
  have e : 18446744073709551615 - q = 2 ^ 64 - (q + 1) := by omega
  rw [freeB, Nat.testBit_and, Nat.testBit_two_pow_sub_one, e, Nat.testBit_two_pow_sub_succ (by omega)]
  by_cases h : v < vars
  · have : v < 64 := by omega
    simp [h, this]
  · simp [h]

theorem free_le (a q : Nat) : freeB a q ≤ a := Nat.and_le_left

/-- Whatever part of f lies below s lies at or below the part of f that is cut from s - 1. -/
theorem mask_next (f s : Nat) : ∀ t, s &&& f = s → t &&& f = t → t < s → t ≤ (s - 1) &&& f := by
  induction s using Nat.strongRecOn generalizing f with
  | _ s ih =>
    intro t hs ht hlt
    have ds : s / 2 &&& f / 2 = s / 2 := by rw [← Nat.and_div_two, hs]
    have dt : t / 2 &&& f / 2 = t / 2 := by rw [← Nat.and_div_two, ht]
    have dr : ((s - 1) &&& f) / 2 = (s - 1) / 2 &&& f / 2 := Nat.and_div_two
    by_cases ho : s % 2 = 1
    · have e1 : (s - 1) / 2 = s / 2 := by omega
      rw [e1, ds] at dr
      omega
    · have e1 : (s - 1) / 2 = s / 2 - 1 := by omega
      rw [e1] at dr
      have := ih (s / 2) (by omega) (f / 2) (t / 2) ds dt (by omega)
      rw [← dr] at this
      by_cases hb : t % 2 = 1
      · have hf : f % 2 = 1 := by rw [← ht] at hb; exact (Nat.and_mod_two_eq_one.1 hb).2
        have : ((s - 1) &&& f) % 2 = 1 := Nat.and_mod_two_eq_one.2 ⟨by omega, hf⟩
        omega
      · omega

theorem mask_sub (f s : Nat) : ((s - 1) &&& f) &&& f = (s - 1) &&& f := by rw [Nat.and_assoc, Nat.and_self]

/-- Which lists of truths are marked by all parts of the free variables. -/
theorem mark_iff {vars p n i : Nat} (hv : vars ≤ 64) (hp : p < 2 ^ vars) (hn : n < 2 ^ vars) (h0 : p &&& n = 0) (hi : i < 2 ^ vars) :
    (∃ t, t &&& freeB (2 ^ vars - 1) (p ||| n) = t ∧ i = n ||| t) ↔ FailAt p n i := by
  have h64 : 2 ^ vars ≤ 2 ^ 64 := Nat.pow_le_pow_right (by omega) hv
  have hq : p ||| n < 18446744073709551616 := Nat.lt_of_lt_of_le (Nat.or_lt_two_pow hp hn) h64
  have fb := fun v => free_bit (vars := vars) hq v hv
  have hpn : ∀ v, p.testBit v = true → n.testBit v = false := by
    intro v h
    have := congrArg (fun z => z.testBit v) h0
    simp only [Nat.testBit_and, h, Bool.true_and, Nat.zero_testBit] at this
    exact this
  constructor
  · rintro ⟨t, ht, rfl⟩
    refine ⟨fun v h => ?_, fun v h => ?_⟩
    · rw [Nat.testBit_or, hpn v h, Bool.false_or, ← ht, Nat.testBit_and, fb v, Nat.testBit_or, h]; simp
    · rw [Nat.testBit_or, h]; rfl
  · rintro ⟨g1, g2⟩
    refine ⟨i &&& freeB (2 ^ vars - 1) (p ||| n), by rw [Nat.and_assoc, Nat.and_self], ?_⟩
    refine Nat.eq_of_testBit_eq fun v => ?_
    rw [Nat.testBit_or, Nat.testBit_and, fb v, Nat.testBit_or]
    cases h1 : n.testBit v
    · cases h2 : p.testBit v
      · by_cases hvv : v < vars
        · simp [hvv]
        · have : i.testBit v = false := Nat.testBit_lt_two_pow (Nat.lt_of_lt_of_le hi (Nat.pow_le_pow_right (by omega) (by omega)))
          simp [this]
      · rw [g1 v h2]; simp
    · rw [g2 v h1]; rfl

/-! ### One clause more, that a literal holds -/
theorem ok_more (vars : Nat) (xss : List (List Int)) (x : Int) (i : Nat) : okF vars (xss ++ [[x]]) i = (okF vars xss i && holF x vars (fun v => i.testBit v)) := by
  simp only [okF, List.any_append, List.any_cons, List.any_nil, Bool.or_false, missF, holdsF, Bool.not_or, Bool.not_not]

theorem hol_other {x : Int} (h0 : 0 ≤ x) (he : x % 2 = 0) (len : Nat) (B : Nat → Bool) : holF (x + 1) len B = !(holF x len B) := by
  have h1 : ¬ x < 0 := by omega
  have h2 : ¬ x + 1 < 0 := by omega
  have e : (x + 1) / 2 = x / 2 := by omega
  have n1 : negF x = false := by simp [negF]; omega
  have n2 : negF (x + 1) = true := by simp [negF]; omega
  simp only [holF, h1, h2, if_false, e, n1, n2]
  cases truF (x / 2) len B <;> rfl

theorem parts_sum (vars : Nat) (xss : List (List Int)) (x : Int) (h0 : 0 ≤ x) (he : x % 2 = 0) (n : Nat) : cntF (okF vars (xss ++ [[x]])) n + cntF (okF vars (xss ++ [[x + 1]])) n = cntF (okF vars xss) n := by
  induction n with
  | zero => rfl
  | succ k ih =>
    have e1 := ok_more vars xss x k
    have e2 := ok_more vars xss (x + 1) k
    rw [hol_other h0 he] at e2
    cases ho : okF vars xss k
    · rw [ho, Bool.false_and] at e1 e2
      rw [cnt_no e1, cnt_no e2, cnt_no ho, ih]
    · rw [ho, Bool.true_and] at e1 e2
      rw [cnt_yes ho]
      cases hh : holF x vars (fun v => k.testBit v)
      · rw [hh] at e1 e2
        rw [cnt_no e1, cnt_yes (by simpa using e2)]; omega
      · rw [hh] at e1 e2
        rw [cnt_yes e1, cnt_no (by simpa using e2)]; omega


theorem rholdsG_any (ao : Option Addr) (n cap : Nat) (xss : List (List Int)) (w : World) (h : Grid w ao n cap xss) (a : Option Addr) (len bap : Nat) (B : Nat → Bool) (hB : IsBools w a len bap B) :
    Calls Tryz.prog 11 #[.slice ao n cap, .slice a len bap] w fun e w' => e = .returned (.int .i64 (fstN xss len B)) ∧ w' = w := by
  have HR : Hid (Grid w ao n cap xss) := h
  have HB : Hid (IsBools w a len bap B) := hB
  have hm := h.max
  clear h hB
  go_enter Tryz.func11, Tryz.ntmps11
  go_wp2
  go_loop [5] (fun i => ∃ k : Nat, k ≤ n ∧ i = .int .i64 k ∧ Hid ((xss.take k).any (missF len B) = false)) (fun i => n - (intOf i).toNat)
  case atStart => exact ⟨0, Nat.zero_le _, rfl, rfl⟩
  case round =>
    obtain ⟨k, hk, rfl, hno⟩ := hrel
    by_cases hlt : k < n
    · obtain ⟨b, off, a1, m1, c1, ys, rfl, hc, hy, hr⟩ := HR.out.at hlt
      cases he : missF len B ys
      · have HV : Hid ((xss.take (k + 1)).any (missF len B) = false) := gany_step hno.out hy.out he
        have he2 : holdsF ys len B = true := by simpa [missF] using he
        go_wp2_with (go_at_call 19; with_reducible (refine (rholdsL_any _ _ _ ys _ hr.out _ _ _ B HB.out).mono ?_); rintro e w1 ⟨rfl, rfl⟩)
        go_round
        case rel => exact ⟨k + 1, by omega, by go_num, HV⟩
        case measure => simp [intOf]; omega
      · have HV : Hid (fstN xss len B = k) := fstN_hit hno.out hy.out he
        have he2 : holdsF ys len B = false := by simpa [missF] using he
        go_wp2_with (go_at_call 19; with_reducible (refine (rholdsL_any _ _ _ ys _ hr.out _ _ _ B HB.out).mono ?_); rintro e w1 ⟨rfl, rfl⟩)
        go_ret
        exact ⟨by rw [HV.out]; rfl, rfl⟩
    · have HV : Hid (fstN xss len B = -1) := fstN_end (gany_end hno.out (by rw [HR.out.1]; omega))
      go_wp2
      go_ret
      exact ⟨by rw [HV.out]; rfl, rfl⟩


theorem chk_low {vars : Int} (xss : List (List Int)) (h : vars < 0 ∨ 1048576 < vars) : chkF vars xss = 10 := by simp only [chkF]; rw [if_pos h]

theorem chk_many {vars : Int} {xss : List (List Int)} (h : ¬ vars < 0) (h2 : ¬ 1048576 < vars) (h3 : 1048576 < xss.length) : chkF vars xss = 8 := by simp only [chkF]; rw [if_neg (by omega), if_pos h3]

theorem chk_bad {vars : Int} {xss : List (List Int)} (h : ¬ vars < 0) (h2 : ¬ 1048576 < vars) (h3 : ¬ 1048576 < xss.length) (h4 : badG vars xss = true) : chkF vars xss = 10 := by simp only [chkF]; rw [if_neg (by omega), if_neg h3, if_pos h4]

theorem chk_good {vars : Int} {xss : List (List Int)} (h : ¬ vars < 0) (h2 : ¬ 1048576 < vars) (h3 : ¬ 1048576 < xss.length) (h4 : badG vars xss = false) : chkF vars xss = 0 := by simp only [chkF]; rw [if_neg (by omega), if_neg h3, h4]; rfl

theorem bad_one {vars y : Int} {ys : List Int} {xss : List (List Int)} {k j : Nat} (hk : xss[k]? = some ys) (hj : ys[j]? = some y) (h : badV vars y = true) : badG vars xss = true :=
  gany_hit hk (gany_hit hj h)

set_option maxHeartbeats 4000000 in
theorem check_any (vars : Int) (ao : Option Addr) (n cap : Nat) (xss : List (List Int)) (w : World) (h : Grid w ao n cap xss) :
    Calls Tryz.prog 16 #[.int .i64 vars, .slice ao n cap] w fun e w' => e = .returned (.int .i64 (chkF vars xss)) ∧ Below w.heap.size w w' := by
  have HR : Hid (Grid w ao n cap xss) := h
  have HN : Hid (xss.length = n) := h.1
  have hm := h.max
  clear h
  by_cases h0 : vars < 0
  · have HV : Hid (chkF vars xss = 10) := chk_low xss (.inl h0)
    go_enter Tryz.func16, Tryz.ntmps16
    go_wp2
    go_step3
    go_wp2
    rw [Exit.noGoto_ret]
    go_ret
    exact ⟨by rw [HV.out]; rfl, Below.refl _ _⟩
  by_cases h1 : 1048576 < vars
  · have HV : Hid (chkF vars xss = 10) := chk_low xss (.inr h1)
    go_enter Tryz.func16, Tryz.ntmps16
    go_wp2
    go_step3
    go_wp2
    rw [Exit.noGoto_ret]
    go_ret
    exact ⟨by rw [HV.out]; rfl, Below.refl _ _⟩
  by_cases h2 : 1048576 < n
  · have HV : Hid (chkF vars xss = 8) := chk_many h0 h1 (by rw [HN.out]; exact h2)
    have h2' : (1048576 : Int) < n := by omega
    go_enter Tryz.func16, Tryz.ntmps16
    go_wp2
    go_step3
    go_wp2
    rw [Exit.noGoto_ret]
    go_ret
    exact ⟨by rw [HV.out]; rfl, Below.refl _ _⟩
  have H3 : Hid (¬ 1048576 < xss.length) := by show ¬ _; rw [HN.out]; exact h2
  have h2' : ¬ (1048576 : Int) < n := by omega
  go_enter Tryz.func16, Tryz.ntmps16
  go_wp2
  go_step3
  go_wp2
  go_step3
  go_wp2
  go_loopw [5, 22] (fun e i wr => ∃ k : Nat, k ≤ n ∧ e = .int .i64 0 ∧ i = .int .i64 k ∧ Hid ((xss.take k).any (badC vars) = false) ∧ Below w.heap.size w wr) (fun _ i _ => n - (intOf i).toNat)
  case atStart => exact ⟨0, Nat.zero_le _, rfl, rfl, rfl, Below.refl _ _⟩
  case round =>
    obtain ⟨k, hk, rfl, rfl, hno, hb⟩ := hrel
    by_cases hlt : k < n
    · obtain ⟨b, off, a1, m1, c1, ys, rfl, hc, hy, hr⟩ := HR.out.at hlt
      have hc1 := (hb.cell (cell_lt hc)).trans hc
      have hm2 := hr.out.max
      clear hc
      go_wp2
      go_loopw [5, 28] (fun e i wr => ∃ j : Nat, j ≤ m1 ∧ e = .int .i64 0 ∧ i = .int .i64 j ∧ Hid ((ys.take j).any (badV vars) = false) ∧ Below w.heap.size w wr) (fun _ i _ => m1 - (intOf i).toNat)
      case atStart => exact ⟨0, Nat.zero_le _, rfl, rfl, rfl, hb⟩
      case round =>
        clear hc1
        obtain ⟨j, hj, rfl, rfl, hnj, hbj⟩ := hrel
        by_cases hjt : j < m1
        · obtain ⟨b2, off2, y, rfl, hc2, hz, _, hu⟩ := (hr.out.keep hbj).at hjt
          by_cases v0 : varF y < 0
          · have HV : Hid (chkF vars xss = 10) := chk_bad (by omega) (by omega) H3.out (bad_one hy.out hz.out (by simp [badV, v0]))
            go_wp2_with (go_at_call 24; with_reducible (refine (var_any _ _ hu).mono ?_); rintro e w1 ⟨rfl, hb1⟩)
            rw [Exit.noGoto_ret]
            go_ret
            exact ⟨by rw [HV.out]; rfl, Below.next hbj hb1⟩
          by_cases v1 : vars ≤ varF y
          · have HV : Hid (chkF vars xss = 10) := chk_bad (by omega) (by omega) H3.out (bad_one hy.out hz.out (by simp [badV, v1]))
            go_wp2_with (go_at_call 24; with_reducible (refine (var_any _ _ hu).mono ?_); rintro e w1 ⟨rfl, hb1⟩)
            rw [Exit.noGoto_ret]
            go_ret
            exact ⟨by rw [HV.out]; rfl, Below.next hbj hb1⟩
          have HV : Hid ((ys.take (j + 1)).any (badV vars) = false) := gany_step hnj.out hz.out (by simp [badV, v0, v1])
          go_wp2_with (go_at_call 24; with_reducible (refine (var_any _ _ hu).mono ?_); rintro e w1 ⟨rfl, hb1⟩)
          go_roundw
          case rel => exact ⟨j + 1, by omega, rfl, by go_num, HV, Below.next hbj hb1⟩
          case measure => simp [intOf]; omega
        · have HV : Hid ((xss.take (k + 1)).any (badC vars) = false) := gany_step hno.out hy.out (gany_end hnj.out (by rw [hr.out.1]; omega))
          go_wp2
          go_roundw
          case rel => exact ⟨k + 1, by omega, rfl, by go_num, HV, hbj⟩
          case measure => simp [intOf]; omega
    · have HV : Hid (chkF vars xss = 0) := chk_good (by omega) (by omega) H3.out (gany_end hno.out (by rw [HN.out]; omega))
      go_wp2
      rw [Exit.noGoto_ret]
      go_ret
      exact ⟨by rw [HV.out]; rfl, hb⟩

theorem bad_lit (vars y : Int) : badV vars y = (decide (y < 0) || decide (vars ≤ y / 2)) ∨ vars < 0 := by
  by_cases h : vars < 0
  · exact .inr h
  · left
    by_cases hy : y < 0
    · have : varF y = -1 := by simp [varF, hy]
      simp [badV, this, hy]
    · have e : varF y = y / 2 := by simp [varF, hy]
      have : ¬ y / 2 < 0 := by omega
      simp only [badV, hy, e, this, decide_false, Bool.false_or]

set_option maxHeartbeats 4000000 in
theorem rcheck_any (vars : Int) (ao : Option Addr) (n cap : Nat) (xss : List (List Int)) (w : World) (h : Grid w ao n cap xss) :
    Calls Tryz.prog 10 #[.int .i64 vars, .slice ao n cap] w fun e w' => e = .returned (.int .i64 (chkF vars xss)) ∧ w' = w := by
  have HR : Hid (Grid w ao n cap xss) := h
  have HN : Hid (xss.length = n) := h.1
  have hm := h.max
  clear h
  by_cases h0 : vars < 0
  · have HV : Hid (chkF vars xss = 10) := chk_low xss (.inl h0)
    go_enter Tryz.func10, Tryz.ntmps10
    go_wp2
    go_ret
    exact ⟨by rw [HV.out]; rfl, rfl⟩
  by_cases h1 : 1048576 < vars
  · have HV : Hid (chkF vars xss = 10) := chk_low xss (.inr h1)
    go_enter Tryz.func10, Tryz.ntmps10
    go_wp2
    go_ret
    exact ⟨by rw [HV.out]; rfl, rfl⟩
  by_cases h2 : 1048576 < n
  · have HV : Hid (chkF vars xss = 8) := chk_many h0 h1 (by rw [HN.out]; exact h2)
    have h2' : (1048576 : Int) < n := by omega
    go_enter Tryz.func10, Tryz.ntmps10
    go_wp2
    go_ret
    exact ⟨by rw [HV.out]; rfl, rfl⟩
  have H3 : Hid (¬ 1048576 < xss.length) := by show ¬ _; rw [HN.out]; exact h2
  have h2' : ¬ (1048576 : Int) < n := by omega
  have HL : Hid (∀ y, badV vars y = (decide (y < 0) || decide (vars ≤ y / 2))) := fun y => (bad_lit vars y).resolve_right h0
  go_enter Tryz.func10, Tryz.ntmps10
  go_wp2
  go_loop [5] (fun i => ∃ k : Nat, k ≤ n ∧ i = .int .i64 k ∧ Hid ((xss.take k).any (badC vars) = false)) (fun i => n - (intOf i).toNat)
  case atStart => exact ⟨0, Nat.zero_le _, rfl, rfl⟩
  case round =>
    obtain ⟨k, hk, rfl, hno⟩ := hrel
    by_cases hlt : k < n
    · obtain ⟨b, off, a1, m1, c1, ys, rfl, hc, hy, hr⟩ := HR.out.at hlt
      have hm2 := hr.out.max
      go_wp2
      go_loop [6] (fun i => ∃ j : Nat, j ≤ m1 ∧ i = .int .i64 j ∧ Hid ((ys.take j).any (badV vars) = false)) (fun i => m1 - (intOf i).toNat)
      case atStart => exact ⟨0, Nat.zero_le _, rfl, rfl⟩
      case round =>
        obtain ⟨j, hj, rfl, hnj⟩ := hrel
        by_cases hjt : j < m1
        · obtain ⟨b2, off2, y, rfl, hc2, hz, _, hu⟩ := hr.out.at hjt
          by_cases v0 : y < 0
          · have HV : Hid (chkF vars xss = 10) := chk_bad (by omega) (by omega) H3.out (bad_one hy.out hz.out (by rw [HL.out]; simp [v0]))
            go_wp2
            go_ret
            exact ⟨by rw [HV.out]; rfl, rfl⟩
          by_cases v1 : vars ≤ y / 2
          · have HV : Hid (chkF vars xss = 10) := chk_bad (by omega) (by omega) H3.out (bad_one hy.out hz.out (by rw [HL.out]; simp [v1]))
            go_wp2
            go_ret
            exact ⟨by rw [HV.out]; rfl, rfl⟩
          have HV : Hid ((ys.take (j + 1)).any (badV vars) = false) := gany_step hnj.out hz.out (by rw [HL.out]; simp [v0, v1])
          go_wp2
          go_round
          case rel => exact ⟨j + 1, by omega, by go_num, HV⟩
          case measure => simp [intOf]; omega
        · have HV : Hid ((xss.take (k + 1)).any (badC vars) = false) := gany_step hno.out hy.out (gany_end hnj.out (by rw [hr.out.1]; omega))
          go_wp2
          go_round
          case rel => exact ⟨k + 1, by omega, by go_num, HV⟩
          case measure => simp [intOf]; omega
    · have HV : Hid (chkF vars xss = 0) := chk_good (by omega) (by omega) H3.out (gany_end hno.out (by rw [HN.out]; omega))
      go_wp2
      go_ret
      exact ⟨by rw [HV.out]; rfl, rfl⟩

theorem may_not {vars : Int} {xss : List (List Int)} (h : ¬ chkF vars xss = 0) : mayF vars xss = chkF vars xss := by simp only [mayF]; rw [if_neg h]

theorem may_many {vars : Int} {xss : List (List Int)} (h : chkF vars xss = 0) (h2 : 16 < vars) : mayF vars xss = 8 := by simp only [mayF]; rw [if_pos h, if_pos h2]

theorem may_good {vars : Int} {xss : List (List Int)} (h : chkF vars xss = 0) (h2 : ¬ 16 < vars) : mayF vars xss = 0 := by simp only [mayF]; rw [if_pos h, if_neg h2]

theorem rmay_any (vars : Int) (ao : Option Addr) (n cap : Nat) (xss : List (List Int)) (w : World) (h : Grid w ao n cap xss) :
    Calls Tryz.prog 21 #[.int .i64 vars, .slice ao n cap] w fun e w' => e = .returned (.int .i64 (mayF vars xss)) ∧ w' = w := by
  have HR : Hid (Grid w ao n cap xss) := h
  clear h
  by_cases h0 : chkF vars xss = 0
  · by_cases h1 : 16 < vars
    · have HV : Hid (mayF vars xss = 8) := may_many h0 h1
      go_enter Tryz.func21, Tryz.ntmps21
      go_wp2_with (go_at_call 10; with_reducible (refine (rcheck_any _ _ _ _ xss _ HR.out).mono ?_); rintro e w1 ⟨rfl, rfl⟩)
      go_ret
      exact ⟨by rw [HV.out]; rfl, rfl⟩
    · have HV : Hid (mayF vars xss = 0) := may_good h0 h1
      go_enter Tryz.func21, Tryz.ntmps21
      go_wp2_with (go_at_call 10; with_reducible (refine (rcheck_any _ _ _ _ xss _ HR.out).mono ?_); rintro e w1 ⟨rfl, rfl⟩)
      go_ret
      exact ⟨by rw [HV.out]; rfl, rfl⟩
  · have HV : Hid (mayF vars xss = chkF vars xss) := may_not h0
    have h0' : (chkF vars xss == 0) = false := by simpa using h0
    go_enter Tryz.func21, Tryz.ntmps21
    go_wp2_with (go_at_call 10; with_reducible (refine (rcheck_any _ _ _ _ xss _ HR.out).mono ?_); rintro e w1 ⟨rfl, rfl⟩)
    go_ret
    exact ⟨by rw [HV.out]; rfl, rfl⟩


set_option maxHeartbeats 1000000 in
theorem bools_same (ao bo : Option Addr) (n cap cbp : Nat) (B : Nat → Bool) (w : World) (h : IsBools w ao n cap B) (g : IsBools w bo n cbp B) (hn : n ≤ 65536) :
    Calls Tryz.prog 14 #[.slice ao n cap, .slice bo n cbp] w fun e w' => e = .returned (.bool true) ∧ Below w.heap.size w w' := by
  have HR : Hid (IsBools w ao n cap B) := h
  have GR : Hid (IsBools w bo n cbp B) := g
  clear h g
  go_enter Tryz.func14, Tryz.ntmps14
  go_wp2
  go_loopw [5] (fun i wr => ∃ k : Nat, k ≤ n ∧ i = .int .i64 k ∧ Below w.heap.size w wr) (fun i _ => n - (intOf i).toNat)
  case atStart => exact ⟨0, Nat.zero_le _, rfl, Below.refl _ _⟩
  case round =>
    obtain ⟨k, hk, rfl, hb⟩ := hrel
    by_cases hlt : k < n
    · obtain ⟨b, off, rfl, hc⟩ := (HR.out.keep hb).at hlt
      obtain ⟨c, ogg, rfl, gc⟩ := (GR.out.keep hb).at hlt
      go_wp2
      go_region
      all_goals go_wp2
      all_goals go_roundw
      all_goals first | exact ⟨k + 1, by omega, by go_num, by first | exact hb | exact hb.drew | exact hb.drew.drew⟩ | (simp [intOf]; omega)
    · go_wp2
      go_ret
      exact ⟨rfl, hb⟩

def OwnB (w : World) (B : Nat) (v : Value) (bs : List Bool) : Prop := w.ownsRow B 4 1 v bs.length (bs.map Value.bool)

theorem OwnB.bools {w : World} {B : Nat} {v : Value} {bs : List Bool} (h : OwnB w B v bs) : ∃ ao c, v = .slice ao bs.length c ∧ IsBools w ao bs.length c (fun i => bs.getD i false) := by
  rcases h.2 with ⟨rfl, hn⟩ | ⟨g, cap, cur, rfl, hb, hg, hl, hm, rest⟩
  · rw [hn]; exact ⟨none, 0, rfl, .inl ⟨rfl, rfl, rfl⟩⟩
  · refine ⟨_, _, rfl, .inr ⟨_, rfl, hl, hm, fun i hi => ?_⟩⟩
    have h2 : w.ownsRow B 4 1 (.slice (some ⟨g, 0, none⟩) bs.length cap) bs.length (bs.map Value.bool) := h
    have hc : w.cell? ⟨g, i, none⟩ = some (.bool (bs.getD i false)) := by
      rw [h2.cellAt i (by omega)]; simp [hi]
    rw [← hc]
    congr 1
    by_cases h0 : i = 0
    · subst h0; rfl
    · simp [Addr.add, h0]

theorem append_bool {w : World} {ops : Array Oper} {rest : List Oper} {o : Oper} {a : Act} {Q : Exit → Act → World → Prop} (hgd : o.guard = none) (s x : Operand)
    (ho : o.op = .call { callee := .builtin .append, args := #[s, x], argTypes := #[25, 25] }) (B : Nat) (v : Value) (bs : List Bool) (hs : a.eval s = v) (own : OwnB w B v bs) (b : Bool)
    (g : Nat) (hx : a.eval x = .slice (some ⟨g, 0, none⟩) 1 1) (hcell : w.cell? ⟨g, 0, none⟩ = some (.bool b)) (hbd : bs.length ≤ 5000) (hB : B ≤ w.heap.size)
    (h : ∀ v' w', Hid (OwnB w' B v' (bs ++ [b])) → Hid (Below B w w') → wpList Tryz.prog ops Q rest (a.put o.dst v') w') : wpList Tryz.prog ops Q (o :: rest) a w := by
  obtain ⟨i0, hi, hz0, hz1, hz2⟩ := info_parts Tryz.info4
  refine wpList_append_own (P := Tryz.prog) (w := w) hgd s x 25 ho B 4 i0 (.bool false) 1 1 Tryz.underlying25 hi hz0 hz1 hz2 rfl (by decide) v bs.length _ hs own ⟨g, 0, none⟩ 1 1 [.bool b] hx rfl ?_ ?_ (by unfold maxLen; omega) (by omega) hB ?_
  · intro j u hj
    match j, hj with
    | 0, hj => simp at hj; subst hj; simpa [Addr.add] using hcell
  · intro u hu
    rw [List.mem_singleton] at hu; subst hu; rfl
  · intro v' w' h1 h2 _
    have e : OwnB w' B v' (bs ++ [b]) := by
      show World.ownsRow _ _ _ _ _ _ _
      rw [List.length_append, List.map_append]
      exact h1
    exact h v' w' e ((Below.refl B w).grown h2 hB fun k hk => (own.lt k hk).1)

theorem half_bit {i k m : Nat} (h : m = i / 2 ^ k) : ((m : Int) % 2 == 1) = i.testBit k ∧ (m : Int) / 2 = ((m / 2 : Nat) : Int) ∧ m / 2 = i / 2 ^ (k + 1) := by
  refine ⟨?_, by omega, ?_⟩
  · rw [Nat.testBit_eq_decide_div_mod_eq, ← h, Bool.eq_iff_iff]; simp; omega
  · rw [h, Nat.div_div_eq_div_mul, Nat.pow_succ]

set_option maxHeartbeats 2000000 in
theorem rtruths_any (vars i : Nat) (hv : vars ≤ 16) (hi : i < 65536) (w : World) :
    Calls Tryz.prog 40 #[.int .i64 (vars : Int), .int .i64 (i : Int)] w fun e w' => ∃ ao c, e = .returned (.slice ao vars c) ∧ Hid (IsBools w' ao vars c (fun v => i.testBit v)) ∧ Below w.heap.size w w' := by
  go_enter Tryz.func40, Tryz.ntmps40
  go_wp2
  go_loopw [1, 5, 6] (fun s1 v s6 wr => ∃ k m : Nat, k ≤ vars ∧ s1 = .int .i64 m ∧ s6 = .int .i64 k ∧ m < 65536 ∧ Hid (m = i / 2 ^ k) ∧ Hid (OwnB wr w.heap.size v (tbL k i)) ∧ Below w.heap.size w wr) (fun _ _ s _ => vars - (intOf s).toNat)
  case atStart => exact ⟨0, i, Nat.zero_le _, rfl, rfl, hi, by show _ = _; simp, World.ownsRow_nil _ _ _ _, Below.refl _ _⟩
  case round =>
    obtain ⟨k, m, hk, rfl, rfl, hm, HM, hown, hb⟩ := hrel
    by_cases hlt : k < vars
    · obtain ⟨h1, h2, h3⟩ := half_bit HM.out
      have H3 : Hid (m / 2 = i / 2 ^ (k + 1)) := h3
      have HL : (tbL k i).length ≤ 5000 := by rw [tbL_len]; omega
      have hs := hb.size
      have HO : Hid (OwnB (wr.alloc (.cells #[.bool (i.testBit k)] 4)) w.heap.size u5 (tbL k i)) := hown.out.alloc _
      clear h3 h2
      go_wp2_with (at_builtin; refine append_bool rfl (.tmp 12) (.tmp 16) rfl w.heap.size _ _ rfl HO.out (i.testBit k) wr.heap.size rfl (by simp) HL (by simp; omega) ?_; intro v2 w2 hown2 hb2)
      go_roundw
      case rel => exact ⟨k + 1, m / 2, by omega, by first | rfl | simp, by go_num, by omega, H3, by show OwnB _ _ _ _; rw [tbL_succ]; exact hown2.out, (hb.alloc hb.size _).trans hb2.out⟩
      case measure => simp [intOf]; omega
    · have hkk : k = vars := by omega
      subst hkk
      obtain ⟨ao, c, rfl, hB⟩ := hown.out.bools
      rw [tbL_len] at hB hown
      have HB : Hid (IsBools wr ao k c (fun v => i.testBit v)) := by
        rcases hB with hB | ⟨x, hx, e1, e2, e3⟩
        · exact .inl hB
        · exact .inr ⟨x, hx, e1, e2, fun j hj => by rw [e3 j hj]; show some (Value.bool ((tbL k i).getD j false)) = _; rw [tbL_get hj]⟩
      clear hB
      go_wp2
      go_ret
      refine ⟨ao, c, ?_, HB, hb⟩
      show Ending.returned (.slice ao (tbL k i).length c) = _
      rw [tbL_len]


theorem pow_num {vars n : Nat} (hv : vars ≤ 16) (hn : n = 2 ^ vars) : n ≤ 65536 ∧ IntKind.i64.wrap ((2 : Int) ^ vars) = (n : Int) := by
  have n2 : n ≤ 65536 := by rw [hn]; exact Nat.pow_le_pow_right (n := 2) (by omega) hv
  refine ⟨n2, ?_⟩
  have e : ((2 : Int) ^ vars) = ((2 ^ vars : Nat) : Int) := by simp
  rw [e, ← hn]
  exact IntWalk.i64_in _ (by omega)

theorem ok_fst (vars : Nat) (xss : List (List Int)) (i : Nat) : decide (fstN xss vars (fun v => i.testBit v) < 0) = okF vars xss i := fstN_neg xss vars _

set_option maxHeartbeats 4000000 in
theorem rall_any (vars n : Nat) (hv : vars ≤ 16) (hn : n = 2 ^ vars) (ao : Option Addr) (L cap : Nat) (xss : List (List Int)) (w : World) (h : Grid w ao L cap xss) :
    Calls Tryz.prog 22 #[.int .i64 (vars : Int), .slice ao L cap] w fun e w' => e = .returned (.tuple #[.int .i64 (cntF (okF vars xss) n : Nat), .int .i64 (firF (okF vars xss) n)]) ∧ Below w.heap.size w w' := by
  have HR : Hid (Grid w ao L cap xss) := h
  obtain ⟨n2, hsh⟩ := pow_num hv hn
  clear h hn
  go_enter Tryz.func22, Tryz.ntmps22
  go_wp2
  go_loopw [6, 7, 8] (fun s6 s7 s8 wr => ∃ (k c : Nat) (f : Int), k ≤ n ∧ s6 = .int .i64 c ∧ s7 = .int .i64 f ∧ s8 = .int .i64 k ∧ c ≤ k ∧ Hid (c = cntF (okF vars xss) k ∧ f = firF (okF vars xss) k) ∧ Below w.heap.size w wr) (fun _ _ s _ => n - (intOf s).toNat)
  case atStart => exact ⟨0, 0, -1, Nat.zero_le _, rfl, rfl, rfl, Nat.le_refl _, ⟨rfl, rfl⟩, Below.refl _ _⟩
  case round =>
    obtain ⟨k, c, f, hk, rfl, rfl, rfl, hck, HCF, hb⟩ := hrel
    by_cases hlt : k < n
    · have k2 : k < 65536 := by omega
      have HG : Hid (Grid wr ao L cap xss) := HR.out.keep hb
      have hlt' : (k : Int) < n := by omega
      cases ho : okF vars xss k
      · have hf : ¬ fstN xss vars (fun v => k.testBit v) < 0 := by have := ok_fst vars xss k; rw [ho] at this; simpa using this
        have HX : Hid (c = cntF (okF vars xss) (k + 1) ∧ f = firF (okF vars xss) (k + 1)) := ⟨by rw [cnt_no ho]; exact HCF.out.1, by rw [fir_no ho]; exact HCF.out.2⟩
        go_wp2_with (first
          | (go_at_call 40; with_reducible (refine (rtruths_any vars k hv k2 _).mono ?_); rintro e w1 ⟨bo, d, rfl, hB, hb1⟩)
          | (go_at_call 11; with_reducible (refine (rholdsG_any _ _ _ xss _ (HG.out.keep hb1) _ _ _ _ hB.out).mono ?_); rintro e w2 ⟨rfl, rfl⟩))
        go_roundw
        case rel => exact ⟨k + 1, c, f, by omega, rfl, rfl, by go_num, by omega, HX, Below.next hb hb1⟩
        case measure => simp [intOf]; omega
      · have hf : fstN xss vars (fun v => k.testBit v) < 0 := by have := ok_fst vars xss k; rw [ho] at this; simpa using this
        by_cases hz : f < 0
        · have HX : Hid (c + 1 = cntF (okF vars xss) (k + 1) ∧ (k : Int) = firF (okF vars xss) (k + 1)) := ⟨by rw [cnt_yes ho, HCF.out.1], by rw [fir_new ho (by rw [← HCF.out.2]; exact hz)]⟩
          go_wp2_with (first
            | (go_at_call 40; with_reducible (refine (rtruths_any vars k hv k2 _).mono ?_); rintro e w1 ⟨bo, d, rfl, hB, hb1⟩)
            | (go_at_call 11; with_reducible (refine (rholdsG_any _ _ _ xss _ (HG.out.keep hb1) _ _ _ _ hB.out).mono ?_); rintro e w2 ⟨rfl, rfl⟩))
          go_roundw
          case rel => exact ⟨k + 1, c + 1, k, by omega, by go_num, rfl, by go_num, by omega, HX, Below.next hb hb1⟩
          case measure => simp [intOf]; omega
        · have HX : Hid (c + 1 = cntF (okF vars xss) (k + 1) ∧ f = firF (okF vars xss) (k + 1)) := ⟨by rw [cnt_yes ho, HCF.out.1], by rw [fir_old (by rw [← HCF.out.2]; exact hz)]; exact HCF.out.2⟩
          go_wp2_with (first
            | (go_at_call 40; with_reducible (refine (rtruths_any vars k hv k2 _).mono ?_); rintro e w1 ⟨bo, d, rfl, hB, hb1⟩)
            | (go_at_call 11; with_reducible (refine (rholdsG_any _ _ _ xss _ (HG.out.keep hb1) _ _ _ _ hB.out).mono ?_); rintro e w2 ⟨rfl, rfl⟩))
          go_roundw
          case rel => exact ⟨k + 1, c + 1, f, by omega, by go_num, rfl, by go_num, by omega, HX, Below.next hb hb1⟩
          case measure => simp [intOf]; omega
    · have hkk : k = n := by omega
      subst hkk
      go_wp2
      go_ret2
      exact ⟨by rw [← HCF.out.1, ← HCF.out.2]; rfl, hb⟩

def cntI (vars : Int) (xss : List (List Int)) : Int := if mayF vars xss = 0 then (cntF (okF vars.toNat xss) (2 ^ vars.toNat) : Nat) else 0

theorem may_ok {vars : Int} {xss : List (List Int)} (h : mayF vars xss = 0) : ∃ v : Nat, vars = v ∧ v ≤ 16 ∧ badG v xss = false := by
  by_cases hc : chkF vars xss = 0
  · have h16 : ¬ 16 < vars := by
      intro h16
      rw [may_many hc h16] at h; simp at h
    by_cases h0 : vars < 0 ∨ 1048576 < vars
    · rw [chk_low xss h0] at hc; simp at hc
    · have h1 : ¬ 1048576 < xss.length := by
        intro h1
        rw [chk_many (by omega) (by omega) h1] at hc; simp at hc
      have h2 : badG vars xss = false := by
        cases e : badG vars xss
        · rfl
        · rw [chk_bad (by omega) (by omega) h1 e] at hc; simp at hc
      refine ⟨vars.toNat, by omega, by omega, ?_⟩
      rw [show ((vars.toNat : Nat) : Int) = vars by omega]
      exact h2
  · rw [may_not hc] at h; exact absurd h hc

theorem cnt_good {v : Nat} {xss : List (List Int)} (h : mayF v xss = 0) : cntI v xss = (cntF (okF v xss) (2 ^ v) : Nat) := by simp [cntI, h]

theorem cnt_bad {vars : Int} {xss : List (List Int)} (h : ¬ mayF vars xss = 0) : cntI vars xss = 0 := by simp [cntI, h]

theorem rcount_any (vars : Int) (ao : Option Addr) (L cap : Nat) (xss : List (List Int)) (w : World) (h : Grid w ao L cap xss) :
    Calls Tryz.prog 13 #[.int .i64 vars, .slice ao L cap] w fun e w' => e = .returned (.tuple #[.int .i64 (cntI vars xss), .int .i64 (mayF vars xss)]) ∧ Below w.heap.size w w' := by
  have HR : Hid (Grid w ao L cap xss) := h
  clear h
  by_cases hm : mayF vars xss = 0
  · obtain ⟨v, rfl, hv, hg⟩ := may_ok hm
    have HV : Hid (cntI v xss = (cntF (okF v xss) (2 ^ v) : Nat)) := cnt_good hm
    go_enter Tryz.func13, Tryz.ntmps13
    go_wp2_with (first
      | (go_at_call 21; with_reducible (refine (rmay_any _ _ _ _ xss _ HR.out).mono ?_); rintro e w1 ⟨rfl, rfl⟩)
      | (go_at_call 22; with_reducible (refine (rall_any v (2 ^ v) hv rfl _ _ _ xss _ HR.out).mono ?_); rintro e w2 ⟨rfl, hb2⟩))
    go_ret2
    exact ⟨by rw [HV.out, hm]; rfl, hb2⟩
  · have HV : Hid (cntI vars xss = 0) := cnt_bad hm
    have hm' : (mayF vars xss == 0) = false := by simpa using hm
    go_enter Tryz.func13, Tryz.ntmps13
    go_wp2_with (go_at_call 21; with_reducible (refine (rmay_any _ _ _ _ xss _ HR.out).mono ?_); rintro e w1 ⟨rfl, rfl⟩)
    go_ret2
    exact ⟨by rw [HV.out]; rfl, Below.refl _ _⟩


end Go.Proofs.YtimfjoinjfecjaaGreat.U
