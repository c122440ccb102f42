/-
  Gates, plain: variables with truths, clauses that let each follow.
-/
import Derived.Test.YtifecnnkkbpglaaMem
namespace Go.Proofs.Ytifecnnkkbpglaa
open Go.RowKit
set_option linter.unusedVariables false

theorem or_map {a b c d : Prop} (h : a ∨ b) (f : a → c) (g : b → d) : c ∨ d := h.elim (fun x => .inl (f x)) (fun x => .inr (g x))

/-- Whether a literal holds. -/
def hd (val : Nat → Bool) (x : Int) : Bool := val (x / 2).toNat != (x % 2 == 1)
/-- A literal of one of n variables. -/
def rng (n : Nat) (x : Int) : Prop := 0 ≤ x ∧ x < 2 * (n : Int)
def upV (val : Nat → Bool) (n : Nat) (b : Bool) : Nat → Bool := fun i => if i = n then b else val i

theorem rng_not {n : Nat} {x : Int} (h : rng n x) : rng n (notF x) := by
  unfold rng at *; unfold notF
  split
  · omega
  · split <;> omega

theorem rng_more {n m : Nat} {x : Int} (h : rng n x) (hm : n ≤ m) : rng m x := by unfold rng at *; omega

theorem not_half {x : Int} (h : 0 ≤ x) : (notF x) / 2 = x / 2 := by
  unfold notF
  split
  · omega
  · split <;> omega

theorem hd_not (val : Nat → Bool) {x : Int} (h : 0 ≤ x) : hd val (notF x) = !hd val x := by
  unfold hd
  rw [not_half h]
  have : (notF x % 2 == 1) = !(x % 2 == 1) := by
    unfold notF
    rw [if_neg (by omega)]
    split <;> rw [Bool.eq_iff_iff] <;> simp <;> omega
  rw [this]
  cases val (x / 2).toNat <;> cases (x % 2 == 1) <;> rfl

theorem hd_agree {val val' : Nat → Bool} {n : Nat} (h : ∀ i, i < n → val' i = val i) {x : Int} (hx : rng n x) : hd val' x = hd val x := by
  unfold hd
  rw [h _ (by unfold rng at hx; omega)]

theorem up_agree (val : Nat → Bool) (n : Nat) (b : Bool) : ∀ i, i < n → upV val n b i = val i := by
  intro i hi; unfold upV; rw [if_neg (by omega)]

theorem hd_up {val : Nat → Bool} {n : Nat} (b : Bool) {x : Int} (hx : rng n x) : hd (upV val n b) x = hd val x := hd_agree (up_agree val n b) hx

theorem hd_new (val : Nat → Bool) (n : Nat) (b : Bool) : hd (upV val n b) (2 * (n : Int)) = b := by
  unfold hd upV
  have e : (2 * (n : Int) / 2).toNat = n := by omega
  have e2 : (2 * (n : Int) % 2 == 1) = false := by simp
  rw [e, e2, if_pos rfl]; simp

theorem hd_ne {val : Nat → Bool} {x y : Int} (hx : 0 ≤ x) (hy : 0 ≤ y) (h : (x / 2) = (y / 2)) (hxy : hd val x = hd val y) : x = y := by
  unfold hd at hxy
  rw [h] at hxy
  have : (x % 2 == 1) = (y % 2 == 1) := by
    cases h1 : val (y / 2).toNat <;> rw [h1] at hxy <;> simpa using hxy
  rw [Bool.eq_iff_iff] at this
  simp at this
  omega

/-- A clause: where all of ws hold, so does x. -/
def clF (x : Int) (ws : List Int) : List Int := x :: ws.map notF

/-- A clause that lets a variable follow. -/
def Frc (cs : List (List Int)) (val : Nat → Bool) (v : Nat) : Prop := ∃ c ∈ cs, ∃ x ∈ c, (x / 2).toNat = v ∧ hd val x = true ∧ ∀ y ∈ c, y ≠ x → (y / 2).toNat < v ∧ hd val y = false

structure Good (n : Nat) (cs : List (List Int)) (val : Nat → Bool) (is : List Int) : Prop where
  pos : 0 < n
  ne : 0 < cs.length
  len : cs.length ≤ 6 * n
  yes : val 0 = true
  sat : ∀ c ∈ cs, (∀ x ∈ c, rng n x) ∧ ∃ x ∈ c, hd val x = true
  inp : ∀ x ∈ is, rng n x
  dfn : ∀ v, v < n → (∃ x ∈ is, (x / 2).toNat = v) ∨ Frc cs val v

theorem Frc.more {cs ds : List (List Int)} {val val' : Nat → Bool} {v n : Nat} (h : Frc cs val v) (hv : v < n) (hcs : ∀ c ∈ cs, ∀ x ∈ c, rng n x) (ha : ∀ i, i < n → val' i = val i) : Frc (cs ++ ds) val' v := by
  obtain ⟨c, hc, x, hx, h1, h2, h3⟩ := h
  refine ⟨c, by simp [hc], x, hx, h1, by rw [hd_agree ha (hcs c hc x hx)]; exact h2, fun y hy hne => ?_⟩
  obtain ⟨h4, h5⟩ := h3 y hy hne
  exact ⟨h4, by rw [hd_agree ha (hcs c hc y hy)]; exact h5⟩

theorem Good.start : Good 1 [[0]] (fun _ => true) [] := by
  refine ⟨by omega, by simp, by simp, rfl, fun c hc => ?_, fun x hx => by simp at hx, fun v hv => .inr ?_⟩
  · rw [List.mem_singleton] at hc; subst hc
    exact ⟨fun x hx => by rw [List.mem_singleton] at hx; subst hx; unfold rng; omega, 0, by simp, rfl⟩
  · exact ⟨[0], by simp, 0, by simp, by simp; omega, rfl, fun y hy hne => absurd (by simpa using hy) hne⟩

/-- What a new one is told by. -/
theorem Good.gate {n : Nat} {cs : List (List Int)} {val : Nat → Bool} {is : List Int} (g : Good n cs val is) (b : Bool) (ds : List (Int × List Int)) (hl : ds.length ≤ 6)
    (hr : ∀ d ∈ ds, rng (n + 1) d.1 ∧ ∀ z ∈ d.2, rng n z)
    (hs : ∀ d ∈ ds, (∀ z ∈ d.2, hd val z = true) → hd (upV val n b) d.1 = true)
    (hf : ∃ d ∈ ds, (d.1 / 2).toNat = n ∧ hd (upV val n b) d.1 = true ∧ ∀ z ∈ d.2, hd val z = true) :
    Good (n + 1) (cs ++ ds.map fun d => clF d.1 d.2) (upV val n b) is := by
  have hag := up_agree val n b
  have hcs : ∀ c ∈ cs, ∀ x ∈ c, rng n x := fun c hc => (g.sat c hc).1
  have hpos := g.pos
  refine ⟨by omega, by have := g.ne; simp; omega, by have := g.len; simp; omega, by rw [hag 0 hpos]; exact g.yes, fun c hc => ?_, fun x hx => rng_more (g.inp x hx) (by omega), fun v hv => ?_⟩
  · rcases List.mem_append.1 hc with hc | hc
    · obtain ⟨h1, x, hx, h2⟩ := g.sat c hc
      exact ⟨fun x hx => rng_more (h1 x hx) (by omega), x, hx, by rw [hd_agree hag (h1 x hx)]; exact h2⟩
    · obtain ⟨d, hd0, rfl⟩ := List.mem_map.1 hc
      obtain ⟨r1, r2⟩ := hr d hd0
      refine ⟨fun x hx => ?_, ?_⟩
      · rcases List.mem_cons.1 hx with rfl | hx
        · exact r1
        · obtain ⟨z, hz, rfl⟩ := List.mem_map.1 hx
          exact rng_more (rng_not (r2 z hz)) (by omega)
      · by_cases hall : ∀ z ∈ d.2, hd val z = true
        · exact ⟨d.1, by simp [clF], hs d hd0 hall⟩
        · obtain ⟨z, hz⟩ := Classical.not_forall.1 hall
          obtain ⟨hz1, hz2⟩ := Classical.not_imp.1 hz
          refine ⟨notF z, by simp only [clF, List.mem_cons, List.mem_map]; exact .inr ⟨z, hz1, rfl⟩, ?_⟩
          rw [hd_up b (rng_not (r2 z hz1)), hd_not _ (r2 z hz1).1]
          simpa using hz2
  · by_cases hvn : v < n
    · rcases g.dfn v hvn with h | h
      · exact .inl h
      · exact .inr (h.more hvn hcs hag)
    · have : v = n := by omega
      subst this
      obtain ⟨d, hd0, h1, h2, h3⟩ := hf
      refine .inr ⟨clF d.1 d.2, by simp; exact .inr ⟨d.1, d.2, hd0, rfl⟩, d.1, by simp [clF], h1, h2, fun y hy hne => ?_⟩
      rcases List.mem_cons.1 hy with rfl | hy
      · exact absurd rfl hne
      · obtain ⟨z, hz, rfl⟩ := List.mem_map.1 hy
        have rz := (hr d hd0).2 z hz
        refine ⟨?_, ?_⟩
        · rw [not_half rz.1]; unfold rng at rz; omega
        · rw [hd_up b (rng_not rz), hd_not _ rz.1, h3 z hz]; rfl

theorem Good.input {n : Nat} {cs : List (List Int)} {val : Nat → Bool} {is : List Int} (g : Good n cs val is) (b : Bool) : Good (n + 1) cs (upV val n b) (is ++ [2 * (n : Int)]) := by
  have hag := up_agree val n b
  have hcs : ∀ c ∈ cs, ∀ x ∈ c, rng n x := fun c hc => (g.sat c hc).1
  have hpos := g.pos
  refine ⟨by omega, g.ne, by have := g.len; omega, by rw [hag 0 hpos]; exact g.yes, fun c hc => ?_, fun x hx => ?_, fun v hv => ?_⟩
  · obtain ⟨h1, x, hx, h2⟩ := g.sat c hc
    exact ⟨fun x hx => rng_more (h1 x hx) (by omega), x, hx, by rw [hd_agree hag (h1 x hx)]; exact h2⟩
  · rcases List.mem_append.1 hx with hx | hx
    · exact rng_more (g.inp x hx) (by omega)
    · rw [List.mem_singleton] at hx; subst hx; unfold rng; omega
  · by_cases hvn : v < n
    · rcases g.dfn v hvn with ⟨x, hx, h⟩ | h
      · exact .inl ⟨x, by simp [hx], h⟩
      · refine .inr ?_
        have := h.more (ds := []) hvn hcs hag
        simpa using this
    · exact .inl ⟨2 * (n : Int), by simp, by omega⟩

/-- What gates are made to: variables come, and those that were there stay as they are. -/
structure More (n : Nat) (cs : List (List Int)) (val : Nat → Bool) (is : List Int) (n' : Nat) (cs' : List (List Int)) (val' : Nat → Bool) : Prop where
  lo : n ≤ n'
  hi : n' ≤ n + 1
  good : Good n' cs' val' is
  agree : ∀ i, i < n → val' i = val i

theorem More.refl {n : Nat} {cs : List (List Int)} {val : Nat → Bool} {is : List Int} (g : Good n cs val is) : More n cs val is n cs val := ⟨Nat.le_refl _, by omega, g, fun _ _ => rfl⟩

def andD (n : Nat) (a b : Int) : List (Int × List Int) := [(2 * (n : Int), [a, b]), (notF (2 * (n : Int)), [notF a]), (notF (2 * (n : Int)), [notF b])]
def iteD (n : Nat) (c a b : Int) : List (Int × List Int) := [(2 * (n : Int), [c, a]), (2 * (n : Int), [notF c, b]), (notF (2 * (n : Int)), [c, notF a]), (notF (2 * (n : Int)), [notF c, notF b])]
def majD (n : Nat) (a b c : Int) : List (Int × List Int) := [(2 * (n : Int), [a, b]), (notF (2 * (n : Int)), [notF a, notF b]), (2 * (n : Int), [b, c]), (notF (2 * (n : Int)), [notF b, notF c]), (2 * (n : Int), [c, a]), (notF (2 * (n : Int)), [notF c, notF a])]

def majB (a b c : Bool) : Bool := a && b || a && c || b && c
def iteB (c a b : Bool) : Bool := c && a || !c && b

theorem y_rng (n : Nat) : rng (n + 1) (2 * (n : Int)) := by unfold rng; omega
theorem y_pos (n : Nat) : 0 ≤ 2 * (n : Int) := by omega
theorem y_half (n : Nat) : (2 * (n : Int) / 2).toNat = n := by omega
theorem ny_half (n : Nat) : (notF (2 * (n : Int)) / 2).toNat = n := by rw [not_half (y_pos n)]; omega
theorem hd_newn (val : Nat → Bool) (n : Nat) (b : Bool) : hd (upV val n b) (notF (2 * (n : Int))) = !b := by rw [hd_not _ (y_pos n), hd_new]

theorem Good.and {n : Nat} {cs : List (List Int)} {val : Nat → Bool} {is : List Int} (g : Good n cs val is) {a b : Int} (ha : rng n a) (hb : rng n b) :
    More n cs val is (n + 1) (cs ++ (andD n a b).map fun d => clF d.1 d.2) (upV val n (hd val a && hd val b)) := by
  have y1 := y_rng n
  have y2 := rng_not y1
  have a2 := rng_not ha
  have b2 := rng_not hb
  refine ⟨by omega, by omega, g.gate _ (andD n a b) (by simp [andD]) ?_ ?_ ?_, up_agree _ _ _⟩
  · simp [andD, *]
  · simp only [andD, List.mem_cons, List.not_mem_nil, or_false, forall_eq_or_imp, forall_eq, hd_new, hd_newn, hd_not val ha.1, hd_not val hb.1]
    cases hd val a <;> cases hd val b <;> simp
  · simp only [andD, List.mem_cons, List.not_mem_nil, or_false, exists_eq_or_imp, exists_eq_left, forall_eq_or_imp, forall_eq, hd_new, hd_newn, hd_not val ha.1, hd_not val hb.1, y_half, ny_half]
    cases hd val a <;> cases hd val b <;> simp

theorem Good.ite {n : Nat} {cs : List (List Int)} {val : Nat → Bool} {is : List Int} (g : Good n cs val is) {c a b : Int} (hc : rng n c) (ha : rng n a) (hb : rng n b) :
    More n cs val is (n + 1) (cs ++ (iteD n c a b).map fun d => clF d.1 d.2) (upV val n (iteB (hd val c) (hd val a) (hd val b))) := by
  have y1 := y_rng n
  have y2 := rng_not y1
  have a2 := rng_not ha
  have b2 := rng_not hb
  have c2 := rng_not hc
  refine ⟨by omega, by omega, g.gate _ (iteD n c a b) (by simp [iteD]) ?_ ?_ ?_, up_agree _ _ _⟩
  · simp [iteD, *]
  · simp only [iteD, iteB, List.mem_cons, List.not_mem_nil, or_false, forall_eq_or_imp, forall_eq, hd_new, hd_newn, hd_not val ha.1, hd_not val hb.1, hd_not val hc.1]
    cases hd val a <;> cases hd val b <;> cases hd val c <;> simp
  · simp only [iteD, iteB, List.mem_cons, List.not_mem_nil, or_false, exists_eq_or_imp, exists_eq_left, forall_eq_or_imp, forall_eq, hd_new, hd_newn, hd_not val ha.1, hd_not val hb.1, hd_not val hc.1, y_half, ny_half]
    cases hd val a <;> cases hd val b <;> cases hd val c <;> simp

theorem Good.maj {n : Nat} {cs : List (List Int)} {val : Nat → Bool} {is : List Int} (g : Good n cs val is) {a b c : Int} (ha : rng n a) (hb : rng n b) (hc : rng n c) :
    More n cs val is (n + 1) (cs ++ (majD n a b c).map fun d => clF d.1 d.2) (upV val n (majB (hd val a) (hd val b) (hd val c))) := by
  have y1 := y_rng n
  have y2 := rng_not y1
  have a2 := rng_not ha
  have b2 := rng_not hb
  have c2 := rng_not hc
  refine ⟨by omega, by omega, g.gate _ (majD n a b c) (by simp [majD]) ?_ ?_ ?_, up_agree _ _ _⟩
  · simp [majD, *]
  · simp only [majD, majB, List.mem_cons, List.not_mem_nil, or_false, forall_eq_or_imp, forall_eq, hd_new, hd_newn, hd_not val ha.1, hd_not val hb.1, hd_not val hc.1]
    cases hd val a <;> cases hd val b <;> cases hd val c <;> simp
  · simp only [majD, majB, List.mem_cons, List.not_mem_nil, or_false, exists_eq_or_imp, exists_eq_left, forall_eq_or_imp, forall_eq, hd_new, hd_newn, hd_not val ha.1, hd_not val hb.1, hd_not val hc.1, y_half, ny_half]
    cases hd val a <;> cases hd val b <;> cases hd val c <;> simp

/-- Nothing more follows from a clause. -/
def Done (K : Nat → Bool) (val : Nat → Bool) (c : List Int) : Prop := (∃ x ∈ c, K (x / 2).toNat = true ∧ hd val x = true) ∨ ∃ x ∈ c, ∃ y ∈ c, x ≠ y ∧ K (x / 2).toNat = false ∧ K (y / 2).toNat = false

/-- Where nothing more follows, all is known. -/
theorem Good.all {n : Nat} {cs : List (List Int)} {val : Nat → Bool} {is : List Int} (g : Good n cs val is) {K : Nat → Bool} (hi : ∀ x ∈ is, K (x / 2).toNat = true) (hd0 : ∀ c ∈ cs, Done K val c) : ∀ v, v < n → K v = true := by
  intro v
  induction v using Nat.strongRecOn with
  | ind v ih =>
    intro hv
    rcases g.dfn v hv with ⟨x, hx, rfl⟩ | ⟨c, hc, x, hx, h1, h2, h3⟩
    · exact hi x hx
    · cases hk : K v
      · exfalso
        rcases hd0 c hc with ⟨y, hy, k1, k2⟩ | ⟨y, hy, z, hz, hne, k1, k2⟩
        · by_cases e : y = x
          · subst e; rw [h1, hk] at k1; cases k1
          · rw [(h3 y hy e).2] at k2; cases k2
        · by_cases e : y = x
          · have e2 : z ≠ x := fun e2 => hne (e.trans e2.symm)
            obtain ⟨q1, _⟩ := h3 z hz e2
            rw [ih _ q1 (by omega)] at k2; cases k2
          · obtain ⟨q1, _⟩ := h3 y hy e
            rw [ih _ q1 (by omega)] at k1; cases k1
      · rfl

end Go.Proofs.Ytifecnnkkbpglaa
