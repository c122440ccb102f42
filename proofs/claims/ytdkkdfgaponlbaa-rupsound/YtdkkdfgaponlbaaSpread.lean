/-
  spread: clauses are gone over anew, by goto.
-/
import Derived.Test.YtdkkdfgaponlbaaStrike
import Derived.WalkMore
import Derived.ScopeJumps
namespace Go.Proofs.Ytdkkdfgaponlbaa
open Go.RowKit Go.Maps
set_option linter.unusedVariables false

/-- The uses of each literal are all clauses that have it, each once. -/
def Uses (L : List (List Int)) (fst : Int → Int) (us : List (Int × Int)) : Prop :=
  ∀ x : Int, 0 ≤ x → ∃ (p : Nat) (cs : List Nat), fst x = p ∧ Chain us p cs ∧ cs.Nodup ∧ ∀ i, i ∈ cs ↔ ∃ c, L[i]? = some c ∧ x ∈ dd c

def stN (H : List Int) (next : Nat) : Nat → Int → Bool := fun _ y => decide (notF y ∈ H.take next)

theorem Gd.turn {L : List (List Int)} {S op H : List Int} {st st' : Nat → Int → Bool} (g : Gd L S op H st) (h : ∀ i c, L[i]? = some c → ∀ y ∈ dd c, st i y = st' i y) (hs : ∀ i y, st' i y = true → notF y ∈ H) : Gd L S op H st' := by
  refine ⟨fun i c hi => ?_, hs, fun i c hi hc => ?_, g.der⟩
  · rw [g.cnt i c hi, cnt_same (h i c hi)]
  · refine g.set i c hi ?_
    rw [cnt_same (h i c hi)]; exact hc

theorem spread_next {L : List (List Int)} {S op H T : List Int} {next : Nat} {h : Int} {cs : List Nat} (hh : H[next]? = some h) (h0 : 0 ≤ h) (hcs : ∀ i, i ∈ cs ↔ ∃ c, L[i]? = some c ∧ notF h ∈ dd c) (g : Gd L S op (H ++ T) (stD (stN H next) (notF h) cs)) :
    Gd L S op (H ++ T) (stN (H ++ T) (next + 1)) := by
  have hl : next < H.length := (List.getElem?_eq_some_iff.1 hh).1
  have e : (H ++ T).take (next + 1) = H.take next ++ [h] := by
    rw [List.take_append_of_le_length (by omega), List.take_add_one, hh]; rfl
  refine g.turn (fun i c hi y hy => ?_) (fun i y hy => ?_)
  · simp only [stD, stN, e, List.mem_append, List.mem_singleton]
    have h1 : (notF y = h) ↔ y = notF h := not_eq h0
    by_cases e2 : y = notF h
    · have hi2 : i ∈ cs := (hcs i).2 ⟨c, hi, e2 ▸ hy⟩
      have h3 : notF y = h := h1.2 e2
      simp [e2, hi2, not_not h0]
    · have h3 : ¬ notF y = h := fun q => e2 (h1.1 q)
      simp [e2, h3]
  · simp only [stN, decide_eq_true_eq] at hy
    exact List.mem_of_mem_take hy

def SpreadEnd (k : K) (fst : Int → Int) (us : List (Int × Int)) (L : List (List Int)) (S H : List Int) (e : Ending) (w' : World) : Prop :=
  (e = .returned (.bool false) ∧ Bad L S ∧ Below k.w0.heap.size k.w0 w') ∨
  (e = .returned (.bool true) ∧ ∃ op' T, P2 k fst us op' (H ++ T) w' ∧ Gd L S op' (H ++ T) (stN (H ++ T) (H ++ T).length))

theorem strike_b (k : K) (fst : Int → Int) (us : List (Int × Int)) (L : List (List Int)) (S op H : List Int) (next : Nat) (w : World) (hp : P2 k fst us op H w) (hg : Gd L S op H (stN H next)) (gr : Grid k.w0 k.la k.n k.cap L) (ham : ∀ c ∈ L, Among k c) (hus : Uses L fst us) (hul : us.length ≤ 100000000)
    (hkn : ∀ x ∈ k.Ks, notF x ∈ k.Ks) (h : Int) (hh : H[next]? = some h) :
    Calls Try.prog 43 #[.pointer (some ⟨k.C, 0, none⟩), .int .i64 (notF h)] w fun e w' => ∃ b : Bool, e = .returned (.bool b) ∧ Hid (b = false → Bad L S ∧ Below k.w0.heap.size k.w0 w') ∧ Hid (b = true → ∃ op' T, P2 k fst us op' (H ++ T) w' ∧ Gd L S op' (H ++ T) (stN (H ++ T) (next + 1))) := by
  have hm : h ∈ H := List.mem_of_getElem? hh
  have hK : h ∈ k.Ks ∧ 0 ≤ h ∧ H.Nodup := by
    obtain ⟨F, M, ks, uv, hv, s, _, _, hn, hk⟩ := hp
    exact ⟨(hk h hm).1, (s.ok.Kn h (hk h hm).1).1, hn⟩
  obtain ⟨hk, h0, hn⟩ := hK
  obtain ⟨p, cs, e1, e2, e3, e4⟩ := hus (notF h) (not_pos h0)
  have hfresh : h ∉ H.take next := by
    intro hq
    obtain ⟨j, hj, e⟩ := List.mem_iff_getElem.1 hq
    have hj2 : j < next := by simp at hj; omega
    have hl : next < H.length := (List.getElem?_eq_some_iff.1 hh).1
    have e5 : H[next] = h := (List.getElem?_eq_some_iff.1 hh).2
    rw [List.getElem_take] at e
    have := (List.getElem_inj hn (h₀ := by omega) (h₁ := hl)).1 (e.trans e5.symm)
    omega
  refine (strike_any k fst us L S op H (stN H next) w hp hg gr ham (notF h) (hkn h hk) p cs e1 e2 (fun i hi => ?_) e3 (by rw [not_not h0]; exact hm) hul).mono fun e w' he => ?_
  · obtain ⟨c, h1, h2⟩ := (e4 i).1 hi
    refine ⟨c, h1, h2, ?_⟩
    simp only [stN, decide_eq_false_iff_not]; rw [not_not h0]; exact hfresh
  · rcases he with ⟨r1, r2, r3⟩ | ⟨r1, op', T, r2, r3⟩
    · exact ⟨false, r1, (fun _ => ⟨r2, r3⟩), (fun h => by cases h)⟩
    · exact ⟨true, r1, (fun h => by cases h), (fun _ => ⟨op', T, r2, spread_next hh h0 e4 r3⟩)⟩

def SpRel (k : K) (fst : Int → Int) (us : List (Int × Int)) (L : List (List Int)) (S H : List Int) (next : Nat) (w : World) : Prop :=
  ∃ op' T, next ≤ (H ++ T).length ∧ P2 k fst us op' (H ++ T) w ∧ Gd L S op' (H ++ T) (stN (H ++ T) next)

/-- The frame at the label. -/
def SpJ (k : K) (fst : Int → Int) (us : List (Int × Int)) (L : List (List Int)) (S H : List Int) (a' : Act) (w' : World) : Prop :=
  ∃ (next : Nat) (u4 u5 u6 u7 u8 u9 u10 u11 u12 u13 u14 u15 u16 u17 u18 u19 u20 u21 u22 u23 : Value), a' = { tmps := #[.pointer (some ⟨k.C, 0, none⟩), undef, .bool false, .int .i64 next, u4, u5, u6, u7, u8, u9, u10, u11, u12, u13, u14, u15, u16, u17, u18, u19, u20, u21, u22, u23], defers := [] } ∧ Hid (SpRel k fst us L S H next w')

set_option maxHeartbeats 4000000 in
theorem spread_any (k : K) (fst : Int → Int) (us : List (Int × Int)) (L : List (List Int)) (S op H : List Int) (w : World) (hp : P2 k fst us op H w) (hg : Gd L S op H (fun _ _ => false)) (gr : Grid k.w0 k.la k.n k.cap L) (ham : ∀ c ∈ L, Among k c) (hus : Uses L fst us) (hul : us.length ≤ 100000000)
    (hkn : ∀ x ∈ k.Ks, notF x ∈ k.Ks) :
    Calls Try.prog 35 #[.pointer (some ⟨k.C, 0, none⟩)] w fun e w' => SpreadEnd k fst us L S H e w' := by
  have HR0 : Hid (SpRel k fst us L S H 0 w) := hid ⟨op, [], Nat.zero_le _, by rw [List.append_nil]; exact hp, by rw [List.append_nil]; exact hg.turn (fun i c hi y hy => by simp [stN]) (fun i y h => by simp [stN] at h)⟩
  have HGR := hid gr
  have HAM := hid ham
  have HUS := hid hus
  have HKN := hid hkn
  clear hp hg gr ham hus hkn
  go_enter Try.func35, Try.ntmps35
  go_wp2
  refine wp_scope_jumps 0 (SpJ k fst us L S H) (fun a' _ => 1000001 - (intOf (a'.tmps.getD 3 undef)).toNat) rfl ?_ ?_
  · go_wp2
    go_step3
    obtain ⟨op', T, hle, hp2, hg2⟩ := HR0.out
    have hlen := hp2.len
    obtain ⟨ao, cap, c5, hrow⟩ := hp2.held
    generalize hH : H ++ T = H' at *
    have HE := hid hH
    have HP2 := hid hp2
    have HG2 := hid hg2
    clear hp2 hg2 hH
    by_cases hn : 0 = H'.length
    · have hn' : ((0 : Int) == (H'.length : Int)) = true := by simp; omega
      have HN := hid hn
      clear hn
      go_wp2
      simp only [Exit.jump]
      go_ret
      exact .inr ⟨rfl, op', T, by rw [HE.out]; exact HP2.out, by rw [HE.out, ← HN.out]; exact HG2.out⟩
    · have hn' : ((0 : Int) == (H'.length : Int)) = false := by simp; omega
      have hlt : 0 < H'.length := by omega
      obtain ⟨b, off, h, rfl, hc, hh, h0, h1⟩ := hrow.at hlt
      rw [Nat.add_zero] at hc
      clear hn
      go_wp2_with (first
        | (go_at_call 37; with_reducible (refine (not_any _ _ h1).mono ?_); rintro e w1 ⟨rfl, hb1⟩)
        | (go_at_call 43; with_reducible (refine (strike_b k fst us L S op' H' 0 _ (HP2.out.below hb1) HG2.out HGR.out HAM.out HUS.out hul HKN.out h hh.out).mono ?_); rintro e w2 ⟨t, rfl, hF, hT⟩))
      · rename_i hb9
        simp only [Exit.jump]
        go_ret
        have ht : t = false := by simpa using hb9
        obtain ⟨q1, q2⟩ := hF.out ht
        exact .inl ⟨rfl, q1, q2⟩
      · rename_i hb9
        go_step3
        have ht : t = true := by simpa using hb9
        obtain ⟨op2, T2, q1, q2⟩ := hT.out ht
        have hR2 : SpRel k fst us L S H 1 w2 := ⟨op2, T ++ T2, by rw [← List.append_assoc, HE.out]; simp; omega, by rw [← List.append_assoc, HE.out]; exact q1, by rw [← List.append_assoc, HE.out]; exact q2⟩
        exact ⟨rfl, 1, _, _, _, _, _, _, _, _, _, _, _, _, _, _, _, _, _, _, _, _, rfl, hR2⟩
  · rintro a' w' ⟨next, u4, u5, u6, u7, u8, u9, u10, u11, u12, u13, u14, u15, u16, u17, u18, u19, u20, u21, u22, u23, rfl, HR⟩
    obtain ⟨op', T, hle, hp2, hg2⟩ := HR.out
    have hlen := hp2.len
    obtain ⟨ao, cap, c5, hrow⟩ := hp2.held
    generalize hH : H ++ T = H' at *
    have HE := hid hH
    have HP2 := hid hp2
    have HG2 := hid hg2
    clear hp2 hg2 hH
    by_cases hn : next = H'.length
    · have hn' : ((next : Int) == (H'.length : Int)) = true := by simp; omega
      have HN := hid hn
      clear hn
      go_wp2
      simp only [Exit.jump]
      go_ret
      exact .inr ⟨rfl, op', T, by rw [HE.out]; exact HP2.out, by rw [HE.out, ← HN.out]; exact HG2.out⟩
    · have hn' : ((next : Int) == (H'.length : Int)) = false := by simp; omega
      have hlt : next < H'.length := by omega
      obtain ⟨b, off, h, rfl, hc, hh, h0, h1⟩ := hrow.at hlt
      clear hn
      go_wp2_with (first
        | (go_at_call 37; with_reducible (refine (not_any _ _ h1).mono ?_); rintro e w1 ⟨rfl, hb1⟩)
        | (go_at_call 43; with_reducible (refine (strike_b k fst us L S op' H' next _ (HP2.out.below hb1) HG2.out HGR.out HAM.out HUS.out hul HKN.out h hh.out).mono ?_); rintro e w2 ⟨t, rfl, hF, hT⟩))
      · rename_i hb9
        simp only [Exit.jump]
        go_ret
        have ht : t = false := by simpa using hb9
        obtain ⟨q1, q2⟩ := hF.out ht
        exact .inl ⟨rfl, q1, q2⟩
      · rename_i hb9
        go_step3
        have ht : t = true := by simpa using hb9
        obtain ⟨op2, T2, q1, q2⟩ := hT.out ht
        have hR2 : SpRel k fst us L S H (next + 1) w2 := ⟨op2, T ++ T2, by rw [← List.append_assoc, HE.out]; simp; omega, by rw [← List.append_assoc, HE.out]; exact q1, by rw [← List.append_assoc, HE.out]; exact q2⟩
        refine ⟨rfl, ⟨next + 1, _, _, _, _, _, _, _, _, _, _, _, _, _, _, _, _, _, _, _, _, rfl, hR2⟩, ?_⟩
        simp [intOf]; omega

end Go.Proofs.Ytdkkdfgaponlbaa
