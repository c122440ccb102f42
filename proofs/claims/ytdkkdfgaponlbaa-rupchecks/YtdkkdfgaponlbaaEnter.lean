/-
  enter: a literal is counted for a clause.
-/
import Derived.Test.YtdkkdfgaponlbaaAll
import Derived.Deep.RegionLaw
namespace Go.Proofs.Ytdkkdfgaponlbaa
open Go.RowKit Go.Maps
set_option linter.unusedVariables false

/-- Clauses ahead of i, and of clause i the literals pre, are entered. -/
structure En (k : K) (L : List (List Int)) (i : Nat) (pre : List Int) (w : World) (F : Int → Fa) (M : Int → Option Nat) (ks op : List Int) (us : List (Int × Int)) (uv : Value) : Prop where
  st : St k w F M ks op us uv [] (.slice none 0 0)
  h : ∀ y, (F y).h = false
  ch : ∀ y, 0 ≤ y → ∃ (p : Nat) (cs : List Nat), (F y).f = p ∧ p ≤ us.length ∧ Chain us p cs ∧ cs.Nodup ∧ ∀ j, j ∈ cs ↔ (j < i ∧ ∃ c, L[j]? = some c ∧ y ∈ dd c) ∨ (j = i ∧ y ∈ dd pre)
  s : ∀ y, (F y).s ≤ i + 1 ∧ ((F y).s = i + 1 ↔ y ∈ dd pre)
  opd : ∀ (j : Nat) (c : List Int), j < i → L[j]? = some c → op[j]? = some (((dd c).length : Nat) : Int)
  opi : i < k.n → op[i]? = some (((dd pre).length : Nat) : Int)
  opz : ∀ j : Nat, i < j → j < k.n → op[j]? = some 0
  ul : us.length ≤ i * 1000 + pre.length

section
variable {k : K} {L : List (List Int)} {i : Nat} {pre : List Int} {w w' : World} {F : Int → Fa} {M M' : Int → Option Nat} {ks ks' op : List Int} {us : List (Int × Int)} {uv uv' : Value} {x : Int}

theorem En.skip (e : En k L i pre w F M ks op us uv) (hx : x < 0 ∨ x ∈ dd pre) (s : St k w' F M' ks' op us uv [] (.slice none 0 0)) : En k L i (pre ++ [x]) w' F M' ks' op us uv := by
  have ed : dd (pre ++ [x]) = dd pre := by rw [dd_snoc, add_skip hx]
  refine ⟨s, e.h, ?_, ?_, e.opd, ?_, e.opz, by have := e.ul; simp; omega⟩
  · rw [ed]; exact e.ch
  · rw [ed]; exact e.s
  · rw [ed]; exact e.opi

theorem En.next {q : Nat} (e : En k L i pre w F M ks op us uv) (hx : ¬ x < 0) (hxd : x ∉ dd pre) (hp : (F x).f = (q : Nat)) (hin : i < k.n)
    (s : St k w' (upd (upd F x { F x with s := i + 1 }) x { (upd F x { F x with s := i + 1 }) x with f := us.length + 1 }) M' ks' (op.set i ((dd pre).length + 1)) (us ++ [((i : Int), (q : Int))]) uv' [] (.slice none 0 0)) :
    En k L i (pre ++ [x]) w' (upd (upd F x { F x with s := i + 1 }) x { (upd F x { F x with s := i + 1 }) x with f := us.length + 1 }) M' ks' (op.set i ((dd pre).length + 1)) (us ++ [((i : Int), (q : Int))]) uv' := by
  have ed : dd (pre ++ [x]) = dd pre ++ [x] := by rw [dd_snoc, add_new hx hxd]
  have hF : ∀ y, y ≠ x → (upd (upd F x { F x with s := i + 1 }) x { (upd F x { F x with s := i + 1 }) x with f := us.length + 1 }) y = F y := fun y hy => by rw [upd_ne _ _ hy, upd_ne _ _ hy]
  have hol := e.opi hin
  have hlen : i < op.length := (List.getElem?_eq_some_iff.1 hol).1
  refine ⟨s, fun y => ?_, fun y y0 => ?_, fun y => ?_, fun j c hj hc => ?_, fun _ => ?_, fun j hj hjn => ?_, by have := e.ul; simp; omega⟩
  · by_cases ey : y = x
    · subst ey; rw [upd_same, upd_same]; exact e.h y
    · rw [hF y ey]; exact e.h y
  · obtain ⟨p, cs, h1, h2, h3, h4, h5⟩ := e.ch y y0
    by_cases ey : y = x
    · subst ey
      rw [hp] at h1
      have e1 : q = p := by omega
      subst e1
      refine ⟨us.length + 1, i :: cs, by rw [upd_same]; simp, by simp, ⟨us.length, q, rfl, by simp, h2, h3.more _⟩, ?_, fun j => ?_⟩
      · rw [List.nodup_cons]
        refine ⟨fun hi => ?_, h4⟩
        rcases (h5 i).1 hi with ⟨h6, _⟩ | ⟨_, h6⟩
        · omega
        · exact hxd h6
      · rw [List.mem_cons, h5 j, ed]
        simp only [List.mem_append, List.mem_singleton]
        constructor
        · rintro (rfl | h6 | ⟨h6, h7⟩)
          · exact .inr (by simp)
          · exact .inl h6
          · exact absurd h7 hxd
        · rintro (h6 | ⟨h6, _⟩)
          · exact .inr (.inl h6)
          · exact .inl h6
    · refine ⟨p, cs, by rw [hF y ey]; exact h1, by simp; omega, h3.more _, h4, fun j => ?_⟩
      rw [h5 j, ed]
      simp only [List.mem_append, List.mem_singleton, ey, or_false]
  · by_cases ey : y = x
    · subst ey
      rw [upd_same, upd_same, ed]
      simp
    · rw [hF y ey, ed]
      simp only [List.mem_append, List.mem_singleton, ey, or_false]
      exact e.s y
  · rw [List.getElem?_set_ne (by omega)]; exact e.opd j c hj hc
  · rw [List.getElem?_set_self hlen, ed]; simp
  · rw [List.getElem?_set_ne (by omega)]; exact e.opz j hj hjn
end

/-- The list of uses, with one more. -/
theorem use_app {k : K} {w w' : World} {F : Int → Fa} {M : Int → Option Nat} {ks op : List Int} {us : List (Int × Int)} {uv hv uv' : Value} {H : List Int} {u : Int × Int} (s : St k w F M ks op us uv H hv) (g : Hid (w.grownBy w' uv.ownBlock))
    (own : Hid (w'.ownsRow k.w0.heap.size 74 2 uv' (us.length + 1) (us.flatMap useV ++ [.int .i64 u.1, .int .i64 u.2]))) :
    w'.cell? ⟨k.C, 2, none⟩ = some uv ∧ w'.frozen? ⟨k.C, 2, none⟩ = false ∧ Hid (St k (w'.setCell ⟨k.C, 2, none⟩ uv') F M ks op (us ++ [u]) uv' H hv) := by
  obtain ⟨e, s'⟩ := s.putus (us' := us ++ [u]) g.out (by have := own.out; simpa [useV] using this)
  exact ⟨by rw [cell_of e]; rfl, frozen_of e, s'⟩

/-- append, as one step of a region that draws its order. -/
theorem step_append_new {w w1 : World} {ops : Array Oper} {o : Oper} {a : Act} {Kc : Act → World → Prop} {Q : Exit → Act → World → Prop} {G : Prop} (hgd : o.guard = none) (s x : Operand) (T E : TypeId)
    (ho : o.op = .call { callee := .builtin .append, args := #[s, x], argTypes := #[T, T] }) (hT : Try.prog.underlying T = some (.slice E)) (z : Value) (sz by_ : Nat) (hz : z.cells.size = sz) (h0 : 0 < sz)
    (hE : (Try.prog.info? E).map (fun i => (i.zero, i.size, i.bytes)) = some (some z, sz, by_)) (hby : by_ ≤ 24)
    (u : List Value) (hw : w = (w1.alloc (.cells u.toArray E)).drew) (hl : u.length = sz) (hu : ∀ y ∈ u, y.oneCell' = true) (B n : Nat) (v : Value) (xs : List Value) (hs : a.eval s = v) (own : w1.ownsRow B E sz v n xs)
    (q : Nat) (hx : a.eval x = .slice (some ⟨q, 0, none⟩) 1 1) (hq : q = w1.heap.size) (hbd : n ≤ 100000000) (hB : B ≤ w1.heap.size)
    (h : ∀ v' w', Hid (w'.ownsRow B E sz v' (n + 1) (xs ++ u)) → Hid (w1.grownBy w' v.ownBlock) → Kc (a.put o.dst v') w') :
    if Region.wanted o (yielded ops a.tmps) = true then Oper.wp Try.prog o a w Kc Q else G := by
  have hwd : Region.wanted o (yielded ops a.tmps) = true := by simp [Region.wanted, hgd]
  rw [if_pos hwd]
  subst hw hq
  obtain ⟨i0, hi, hz0, hz1, hz2⟩ := info_parts hE
  have hmul : (n + 1) * by_ ≤ (n + 1) * 24 := Nat.mul_le_mul_left _ hby
  have own1 : (w1.alloc (.cells u.toArray E)).drew.ownsRow B E sz v n xs := own.alloc _
  obtain ⟨v', w', hrun, r1, r2, _⟩ := run_append_own (P := Try.prog) (w1.alloc (.cells u.toArray E)).drew B T o.type E i0 z sz by_ hT hi hz0 hz1 hz2 hz h0 v n xs own1 ⟨w1.heap.size, 0, none⟩ 1 1 u (by omega) (by
    intro j y hj
    have e : (⟨w1.heap.size, 0, none⟩ : Addr).add j = ⟨w1.heap.size, j, none⟩ := by
      by_cases hz : j = 0
      · subst hz; rfl
      · simp [Addr.add, hz]
    have e2 : (w1.alloc (.cells u.toArray E)).drew.cell? ⟨w1.heap.size, j, none⟩ = (w1.alloc (.cells u.toArray E)).cell? ⟨w1.heap.size, j, none⟩ := rfl
    rw [e, e2, cell_of (new_same w1 _)]
    simpa using hj) hu (by unfold maxLen; omega) (by omega) (by show B ≤ (w1.alloc _).heap.size; simp; omega)
  unfold Oper.wp
  simp [execOp, ho, resolve, invoke, builtin, hs, hx, hrun, Result.andThen]
  exact h v' w' r1 (grown_two (grown_new w1 (.cells u.toArray E) _) ⟨r2.os, r2.tape, r2.output, r2.size, r2.block⟩)

theorem fa_c2 {k : K} {w : World} {F : Int → Fa} {M : Int → Option Nat} {ks op : List Int} {us : List (Int × Int)} {uv hv : Value} {H : List Int} {x t q : Int} {b o : Nat} (s : St k w (upd F x { F x with s := t }) M ks op us uv H hv) (a : At k M x b o) (h0 : 0 ≤ x) (hq : (F x).f = q) :
    w.cell? ⟨b, o + 2, none⟩ = some (.int .i64 q) := by
  rw [s.fa.c2 a h0, upd_same, ← hq]
theorem fa_fr {k : K} {w : World} {F : Int → Fa} {M : Int → Option Nat} {ks op : List Int} {us : List (Int × Int)} {uv hv : Value} {H : List Int} {x : Int} {b o : Nat} (s : St k w F M ks op us uv H hv) (a : At k M x b o) (h0 : 0 ≤ x) :
    w.frozen? ⟨b, o + 2, none⟩ = false := s.fa.fr a h0 _

def EnEnd (k : K) (L : List (List Int)) (i : Nat) (pre : List Int) (e : Ending) (w' : World) : Prop := e = .returned (.tuple #[]) ∧ ∃ F M ks op us uv, En k L i pre w' F M ks op us uv

set_option maxHeartbeats 4000000 in
theorem enter_any (k : K) (L : List (List Int)) (i : Nat) (pre : List Int) (w : World) (F : Int → Fa) (M : Int → Option Nat) (ks op : List Int) (us : List (Int × Int)) (uv : Value) (en : En k L i pre w F M ks op us uv) (x : Int) (hx : 0 ≤ x → x ∈ k.Ks) (hin : i < k.n) (hpl : pre.length ≤ 1000) (hkn : k.n ≤ 1000) :
    Calls Try.prog 40 #[.pointer (some ⟨k.C, 0, none⟩), .int .i64 i, .int .i64 x] w fun e w' => EnEnd k L i (pre ++ [x]) e w' := by
  have HE := hid en
  have HXK := hid hx
  have hmany := en.st.ok.many
  have hul := en.ul
  clear en hx
  by_cases hneg : x < 0
  · go_enter Try.func40, Try.ntmps40
    go_wp2
    go_end0
    exact ⟨rfl, F, M, ks, op, us, uv, HE.out.skip (.inl hneg) HE.out.st⟩
  · have hpos : 0 ≤ x := by omega
    have HX := hid (HXK.out hpos)
    by_cases hsn : x ∈ dd pre
    · have hs : (F x).s = (i : Int) + 1 := (HE.out.s x).2.2 hsn
      have HSN := hid hsn
      clear hsn
      go_enter Try.func40, Try.ntmps40
      go_wp2_with (go_at_call 51; with_reducible (refine (of_at HE.out.st _ HX.out).mono ?_); rintro e w2 ⟨b2, o2, M2, ks2, rfl, hs2, ha2⟩; have c1 := hs2.out.fa.c1 ha2.out hpos; rw [hs] at c1)
      go_end0
      exact ⟨rfl, F, _, _, op, us, uv, HE.out.skip (.inr HSN.out) hs2.out⟩
    · have hs : ((F x).s == (i : Int) + 1) = false := by
        have h1 := (HE.out.s x).2
        have h2 : ¬ (F x).s = (i : Int) + 1 := fun e => hsn (h1.1 e)
        simpa using h2
      obtain ⟨q, _, hqf, hqu, _⟩ := HE.out.ch x hpos
      obtain ⟨m, hm⟩ : ∃ m : Nat, m = (dd pre).length := ⟨_, rfl⟩
      have hop := HE.out.opi hin
      rw [← hm] at hop
      have hml : m ≤ 1000 := by have := dd_len pre; omega
      have hin' : (i : Int) < k.n := by omega
      have HOL := hid (List.getElem?_eq_some_iff.1 hop).1
      have HOP := hid hop
      have HSN := hid hsn
      have HM := hid hm
      have HQF := hid hqf
      clear hsn hqu hop hm hqf
      go_enter Try.func40, Try.ntmps40
      go_wp2_with ((go_at_call 51; with_reducible (refine (of_at HE.out.st _ HX.out).mono ?_); rintro e w2 ⟨b2, o2, M2, ks2, rfl, hs2, ha2⟩; have c1 := hs2.out.fa.c1 ha2.out hpos; have d1 := hs2.out.fa.fr ha2.out hpos (o2 + 1); have s3 := hid (hs2.out.puts ha2.out hpos ((i : Int) + 1)); have s4 := hid (s3.out.putop i ((m : Int) + 1)); have v1 := s3.out.c1; have v2 := s3.out.opc HOP.out; have v3 := s3.out.opf i; have v4 := s4.out.c2; have v5 := fa_c2 s4.out ha2.out hpos HQF.out))
      have v6 := (s4.out.grown (grown_new _ (.cells #[.int .i64 (i : Int), .int .i64 (q : Int)] 74) none)).c2
      go_region_law (refine step_append_new (w1 := (w2.setCell ⟨b2, o2 + 1, none⟩ (.int .i64 ((i : Int) + 1))).setCell ⟨k.OB, i, none⟩ (.int .i64 ((m : Int) + 1))) rfl _ _ 51 74 rfl Try.underlying51 (.agg #[.int .i64 0, .int .i64 0]) 2 16 rfl (by decide) Try.info74 (by omega) [.int .i64 (i : Int), .int .i64 (q : Int)] rfl rfl (ints_one [(i : Int), (q : Int)]) k.w0.heap.size us.length uv _ rfl s4.out.us _ rfl (by simp) (by omega) s4.out.be.size ?_; intro v5 w5 own5 g5; obtain ⟨ao5, cp5, rfl⟩ := own_shape own5.out; have s5 := use_app (u := ((i : Int), (q : Int))) s4.out g5 own5; obtain ⟨e5, e6, s6⟩ := s5; have e7 := s6.out.c2; have e8 := fa_fr s6.out ha2.out hpos; have e9 := s6.out.fa.c2 ha2.out hpos)
      all_goals go_wp2
      all_goals go_end0
      all_goals have s7 := s6.out.putf ha2.out hpos ((us.length : Int) + 1)
      all_goals rw [HM.out] at s7
      all_goals exact ⟨rfl, _, _, _, _, _, _, HE.out.next (by omega) HSN.out HQF.out hin s7⟩

end Go.Proofs.Ytdkkdfgaponlbaa
