/-
  What a walk is told of deeds that came in; few.
-/
import Derived.Test.YtbfaigeopkonbaaWAct
import Derived.ChangeOld
import Derived.OpenShut
import Derived.Deep.SlicePairs
import Derived.Lib.SmallJoins
namespace Go.Proofs.Ytbfaigeopkonbaa
open Go.RowKit Go.ChangeShapes Go.WideShapes Go.ChangeAt
set_option linter.unusedVariables false

structure Dd where
  kd : Int
  v : Int
  a : Option Addr
  m : Nat
  c : Nat
  xs : List Int

def ddV (d : Dd) : Value := .agg #[.int .i64 d.kd, .int .i64 d.v, .slice d.a d.m d.c]

structure DdOk (w0 : World) (d : Dd) : Prop where
  row : U.Row w0 d.a d.m d.c d.xs
  v0 : -9223372036854775808 ≤ d.v
  v1 : d.v ≤ 9223372036854775807

/-- The deeds that a list holds. -/
def Deeds (w : World) (ao : Option Addr) (n : Nat) (D : Nat → Dd) : Prop :=
  0 < n → ∃ b off, ao = some ⟨b, off, none⟩ ∧ ∀ j, j < n → w.cell? ⟨b, off + j * 3, none⟩ = some (.int .i64 (D j).kd) ∧ w.cell? ⟨b, off + j * 3 + 1, none⟩ = some (.int .i64 (D j).v) ∧ w.cell? ⟨b, off + j * 3 + 2, none⟩ = some (.slice (D j).a (D j).m (D j).c) ∧ DdOk w (D j)

theorem wf_two {x : Int} (h : (Lit.int .i64 x).wf = true) : -9223372036854775808 ≤ x ∧ x ≤ 9223372036854775807 := U.wf_i64 h

theorem cells38 : Try.prog.cellsOf 38 = 3 := by kernel_rfl
theorem cells3 : Try.prog.cellsOf 3 = 1 := by kernel_rfl
theorem cells36 : Try.prog.cellsOf 36 = 1 := by kernel_rfl

/-- Whatever list of numbers came in. -/
theorem row_at {H : Type} {enc : TypeId × Value → H} {W : World} {base : Nat} {held : Bool} {fuel : Nat} {cs : List Value} {x : DataW H × List MemPlace}
    (h : DataW.trod enc Try.prog W base (fun _ => true) held fuel 36 cs = some x) : ∃ a len cap xs, cs = [.slice a len cap] ∧ U.Row W a len cap xs := by
  rcases open_ints Try.underlying36 Try.underlying3 (by kernel_rfl) h with ⟨hcs, _⟩ | ⟨x, len, cap, zs, hcs, _, hl, hm, hz, _, hc, hw⟩
  · exact ⟨none, 0, 0, [], hcs, U.row_none W⟩
  · have hz2 : zs.length = cap := by simpa using hz
    obtain ⟨b, off, spot⟩ := x
    refine ⟨_, len, cap, zs.take len, hcs, by rw [List.length_take]; omega, hl, hm, fun e => by simp at e, fun x hx => U.wf_i64 (hw x (List.mem_of_mem_take hx)), fun h0 => ?_⟩
    have hspot : spot = none := by simpa [Addr.add] using World.cell?_spot (hc 0 (by omega))
    subst hspot
    refine ⟨b, off, rfl, fun j hj => ?_⟩
    have := hc j (by omega)
    have e : (zs.take len).getD j 0 = zs.getD j 0 := by simp [hj]
    rw [e]
    by_cases h0 : j = 0
    · subst h0; simpa [Addr.add] using this
    · simpa [Addr.add, h0] using this

theorem row_of {H : Type} {enc : TypeId × Value → H} {W : World} {base : Nat} {held : Bool} {fuel : Nat} {a : Option Addr} {len cap : Nat} {x : DataW H × List MemPlace}
    (h : DataW.trod enc Try.prog W base (fun _ => true) held fuel 36 (Value.slice a len cap).cells.toList = some x) : ∃ xs, U.Row W a len cap xs := by
  obtain ⟨a', l', c', xs, e, hr⟩ := row_at h
  simp [Value.cells] at e
  obtain ⟨rfl, rfl, rfl⟩ := e
  exact ⟨xs, hr⟩

theorem deeds_of {H : Type} {enc : TypeId × Value → H} {W : World} {base : Nat} {held : Bool} {fuel : Nat} {a : Option Addr} {len cap : Nat} {x : DataW H × List MemPlace}
    (h : DataW.trod enc Try.prog W base (fun _ => true) held fuel 22 (Value.slice a len cap).cells.toList = some x) : ∃ D, Deeds W a len D := by
  rcases Go.Deep.open_slice Try.underlying22 h with ⟨hcs, _⟩ | ⟨ad, l, c, m, n, D, Pl, hcs, _, hl, hm, hmm, _, hx⟩
  · simp [Value.cells] at hcs
    obtain ⟨rfl, rfl, rfl⟩ := hcs
    exact ⟨fun _ => ⟨0, 0, none, 0, 0, []⟩, fun h => by omega⟩
  · simp [Value.cells] at hcs
    obtain ⟨rfl, rfl, rfl⟩ := hcs
    simp only [if_true] at hmm
    subst hmm
    have each : ∀ i, i < len → ∃ d : Dd, W.cell? (ad.add (i * 3)) = some (.int .i64 d.kd) ∧ W.cell? ((ad.add (i * 3)).add 1) = some (.int .i64 d.v) ∧ W.cell? ((ad.add (i * 3)).add 2) = some (.slice d.a d.m d.c) ∧ DdOk W d := by
      intro i hi
      obtain ⟨cs', h1, h2⟩ := hx i (by omega)
      rw [cells38] at h1
      obtain ⟨_, hlen, hcell⟩ := World.cells?_some h1
      have e0 := hcell 0 (by omega)
      have e1 := hcell 1 (by omega)
      have e2 := hcell 2 (by omega)
      match cs', hlen with
      | [c0, c1, c2], _ =>
        obtain ⟨xs, k, hk, hxy, _, hxl, hf⟩ := DataW.trod_struct Try.underlying38 h2
        match xs, hxl with
        | [y0, y1, y2], _ =>
          have g0 : DataW.trod enc Try.prog W base (fun _ => true) held k 3 [c0] = some y0 := by simpa [cells3] using hf 0 _ rfl
          have g1 : DataW.trod enc Try.prog W base (fun _ => true) held k 3 [c1] = some y1 := by simpa [cells3] using hf 1 _ rfl
          have g2 : DataW.trod enc Try.prog W base (fun _ => true) held k 36 [c2] = some y2 := by simpa [cells36] using hf 2 _ rfl
          obtain ⟨n0, q0, _⟩ := DataW.trod_int Try.underlying3 g0
          obtain ⟨n1, q1, _, f1⟩ := DataW.trod_int Try.underlying3 g1
          obtain ⟨a2, m2, k2, xs2, q2, r2⟩ := row_at g2
          simp at q0 q1 q2
          subst q0 q1 q2
          obtain ⟨w1, w2⟩ := wf_two f1
          exact ⟨⟨n0, n1, a2, m2, k2, xs2⟩, by simpa [Addr.add] using e0, by simpa using e1, by simpa using e2, r2, w1, w2⟩
    haveI : Inhabited Dd := ⟨⟨0, 0, none, 0, 0, []⟩⟩
    obtain ⟨q, hq⟩ := Go.Deep.choose_lt each
    refine ⟨q, fun h0 => ?_⟩
    obtain ⟨b, off, spot⟩ := ad
    have hsp : spot = none := by
      have := (hq 0 h0).1
      simpa [Addr.add] using World.cell?_spot this
    subst hsp
    refine ⟨b, off, rfl, fun j hj => ?_⟩
    obtain ⟨r0, r1, r2, r3⟩ := hq j hj
    rw [add_at] at r0 r1 r2
    rw [add_at] at r1 r2
    exact ⟨r0, r1, r2, r3⟩

theorem Deeds.at {w : World} {ao : Option Addr} {n : Nat} {D : Nat → Dd} (h : Deeds w ao n D) {j : Nat} (hj : j < n) : ∃ b off, ao = some ⟨b, off, none⟩ ∧ w.cell? ⟨b, off + j * 3, none⟩ = some (.int .i64 (D j).kd) ∧ w.cell? ⟨b, off + j * 3 + 1, none⟩ = some (.int .i64 (D j).v) ∧ w.cell? ⟨b, off + j * 3 + 2, none⟩ = some (.slice (D j).a (D j).m (D j).c) ∧ DdOk w (D j) := by
  obtain ⟨b, off, e, hc⟩ := h (by omega)
  exact ⟨b, off, e, hc j hj⟩

theorem Deeds.be {w w' : World} {ao : Option Addr} {n : Nat} {D : Nat → Dd} (h : Deeds w ao n D) (bb : Below w.heap.size w w') {j : Nat} (hj : j < n) : ∃ b off, ao = some ⟨b, off, none⟩ ∧ w'.cell? ⟨b, off + j * 3, none⟩ = some (.int .i64 (D j).kd) ∧ w'.cell? ⟨b, off + j * 3 + 1, none⟩ = some (.int .i64 (D j).v) ∧ w'.cell? ⟨b, off + j * 3 + 2, none⟩ = some (.slice (D j).a (D j).m (D j).c) ∧ DdOk w (D j) := by
  obtain ⟨b, off, e, c0, c1, c2, ok⟩ := h.at hj
  exact ⟨b, off, e, cell_be c0 bb, cell_be c1 bb, cell_be c2 bb, ok⟩

/-- Not too many, and none too long. -/
def Few (n : Nat) (D : Nat → Dd) : Prop := n ≤ 60 ∧ ∀ j, j < n → (D j).m ≤ 12

theorem few_yes {w : World} {ao : Option Addr} {n cap : Nat} {D : Nat → Dd} (h : Deeds w ao n D) (hf : Few n D) : Calls Try.prog 6 #[.slice ao n cap] w fun e w' => e = .returned (.bool true) ∧ w' = w := by
  obtain ⟨hn, hm⟩ := hf
  have hnd : decide ((60 : Int) < n) = false := by simp; omega
  have HD := hid h
  have HM := hid hm
  clear h hm
  go_enter Try.func6, Try.ntmps6
  go_wp2
  go_loop [3] (fun i => ∃ q : Nat, q ≤ n ∧ i = .int .i64 q) (fun i => n - (intOf i).toNat)
  case atStart => exact ⟨0, Nat.zero_le _, rfl⟩
  case round =>
    obtain ⟨q, hq, rfl⟩ := hrel
    by_cases hlt : q < n
    · have hlt' : (q : Int) < n := by omega
      obtain ⟨b, off, rfl, c0, c1, c2, ok⟩ := HD.out.at hlt
      have hm := HM.out q hlt
      have hmd : decide ((12 : Int) < (D q).m) = false := by simp; omega
      clear ok
      go_wp2
      go_round
      case rel => exact ⟨q + 1, by omega, by go_num⟩
      case measure => simp only [intOf]; omega
    · obtain rfl : q = n := by omega
      go_wp2
      go_ret
      exact ⟨rfl, rfl⟩

theorem few_no {w : World} {ao : Option Addr} {n cap : Nat} {D : Nat → Dd} (h : Deeds w ao n D) (hf : ¬ Few n D) : Calls Try.prog 6 #[.slice ao n cap] w fun e w' => e = .returned (.bool false) ∧ w' = w := by
  by_cases hn : 60 < n
  · have hn' : (60 : Int) < n := by omega
    clear h hf
    go_enter Try.func6, Try.ntmps6
    go_wp2
    go_ret
    exact ⟨rfl, rfl⟩
  · have hnd : decide ((60 : Int) < n) = false := by simp; omega
    have HD := hid h
    have HF := hid hf
    clear h hf
    go_enter Try.func6, Try.ntmps6
    go_wp2
    go_loop [3] (fun i => ∃ q : Nat, q ≤ n ∧ i = .int .i64 q ∧ Hid (∀ j, j < q → (D j).m ≤ 12)) (fun i => n - (intOf i).toNat)
    case atStart => exact ⟨0, Nat.zero_le _, rfl, hid (fun j h => by omega)⟩
    case round =>
      obtain ⟨q, hq, rfl, hall⟩ := hrel
      by_cases hlt : q < n
      · have hlt' : (q : Int) < n := by omega
        obtain ⟨b, off, rfl, c0, c1, c2, ok⟩ := HD.out.at hlt
        clear ok
        by_cases hm : 12 < (D q).m
        · have hm' : (12 : Int) < (D q).m := by omega
          go_wp2
          go_ret
          exact ⟨rfl, rfl⟩
        · have hmd : decide ((12 : Int) < (D q).m) = false := by simp; omega
          go_wp2
          go_round
          case rel => exact ⟨q + 1, by omega, by go_num, hid (fun j hj => by
            by_cases e : j = q
            · subst e; omega
            · exact hall.out j (by omega))⟩
          case measure => simp only [intOf]; omega
      · exact absurd ⟨by omega, fun j hj => hall.out j (by omega)⟩ HF.out

section
variable {k : K} {kw : WK} {w w0 : World} {g : G} {L : List E} {lev : Nat} {p : V} {H : List Int} {la ta : Value} {xss : List (List Int)} {ths : List Bool} {a1 : Option Addr} {m1 c1 : Nat} {xs : List Int}

theorem act_is (I : ActI k kw w0 g L lev p H la ta xss ths a1 m1 c1 xs w) (kd v : Int) (v0 : -9223372036854775808 ≤ v) (v1 : v ≤ 9223372036854775807) (hk : kd = 1 → Match g xss ths) :
    Calls Try.prog 11 #[.pointer (some ⟨k.OB, 0, none⟩), .pointer (some ⟨kw.OB, 0, none⟩), .agg #[.int .i64 kw.n, la, ta], .agg #[.int .i64 kd, .int .i64 v, .slice a1 m1 c1]] w fun e w' => ActEnd k kw w0 g p H xss ths kd w e w' := by
  by_cases h0 : kd = 0
  · subst h0
    by_cases hx : ∀ x ∈ xs, 0 ≤ x ∧ x < 2 * (kw.n : Int)
    · exact act0_yes I v hx
    · exact act0_no I v hx
  · by_cases h1 : kd = 1
    · subst h1
      cases hu : usedF L v
      · cases hl : live g v
        · exact act1_no I v v0 v1 hu (hk rfl) hl
        · obtain ⟨q1, q2, q3⟩ := live_iff.1 hl
          obtain ⟨i, rfl⟩ : ∃ i : Nat, v = i := ⟨v.toNat, by omega⟩
          exact act1_yes I i hu (hk rfl) (by omega) (by simpa using q3)
      · exact act1_used I v hu
    · by_cases h2 : kd = 2
      · subst h2; exact act2 I v
      · by_cases h3 : kd = 3
        · subst h3; exact act3 I v
        · by_cases h4 : kd = 4
          · subst h4; exact act4 I v
          · exact act5 I kd v h0 h1 h2 h3 h4
end

end Go.Proofs.Ytbfaigeopkonbaa
