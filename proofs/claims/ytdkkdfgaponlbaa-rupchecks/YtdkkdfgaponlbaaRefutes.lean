/-
  Refutes: whether it is a proof that nothing holds; of the program and of the document.
-/
import Derived.Test.YtdkkdfgaponlbaaChecks
namespace Go.Proofs.Ytdkkdfgaponlbaa
open Go.RowKit
set_option linter.unusedVariables false

/-- A truth that tells whether p. -/
def BEnd (w : World) (p : Prop) (e : Ending) (w' : World) : Prop := ∃ b : Bool, e = .returned (.bool b) ∧ Hid (b = true ↔ p) ∧ Hid (Below w.heap.size w w')

theorem ref_no {L P : List (List Int)} (h : P.any nulF = false) : false = true ↔ IsRef L P :=
  ⟨fun e => (by cases e), fun g => absurd g.1 (by rw [h]; simp)⟩

theorem ref_one {L P : List (List Int)} {r : Int} (h : P.any nulF = true) (g : IsFst L P r) : r = -1 ↔ IsRef L P := by
  rw [(fst_neg g).2]; exact ⟨fun q => ⟨h, q⟩, fun q => q.2⟩

theorem ref_neg {L P : List (List Int)} {r : Int} (h : P.any nulF = true) (g : IsFst L P r) : r < 0 ↔ IsRef L P := by
  rw [(fst_neg g).1]; exact ⟨fun q => ⟨h, q⟩, fun q => q.2⟩

set_option maxHeartbeats 1000000 in
theorem refutes_any (w : World) (la : Option Addr) (n cap : Nat) (L : List (List Int)) (gl : Grid w la n cap L) (pa : Option Addr) (m pcap : Nat) (P : List (List Int)) (gp : Grid w pa m pcap P) (hn : n ≤ 50) (hm : m ≤ 50) (hl : ∀ c ∈ L, c.length ≤ 100) (hp : ∀ c ∈ P, c.length ≤ 100) :
    Calls Try.prog 11 #[.slice la n cap, .slice pa m pcap] w fun e w' => BEnd w (IsRef L P) e w' := by
  have HGL := hid gl
  have HGP := hid gp
  have HL := hid hl
  have HP := hid hp
  clear gl gp hl hp
  cases hE : P.any nulF
  · have HE := hid hE
    go_enter Try.func11, Try.ntmps11
    go_wp2_with (go_at_call 20; with_reducible (refine (containsE_any _ _ _ P _ HGP.out).mono ?_); rintro e w1 ⟨rfl, rfl⟩)
    go_ret
    exact ⟨false, rfl, ref_no HE.out, Below.refl _ _⟩
  · have HE := hid hE
    go_enter Try.func11, Try.ntmps11
    go_wp2_with (first
      | (go_at_call 20; with_reducible (refine (containsE_any _ _ _ P _ HGP.out).mono ?_); rintro e w1 ⟨rfl, rfl⟩)
      | (go_at_call 9; with_reducible (refine (check_any _ _ _ _ L HGL.out _ _ _ P HGP.out hn hm HL.out HP.out).mono ?_); rintro e w2 ⟨r, rfl, hf, hb⟩))
    go_ret
    exact ⟨_, rfl, hid (by rw [← ref_one HE.out hf.out]; simp), hb⟩

set_option maxHeartbeats 1000000 in
theorem rrefutes_any (w : World) (la : Option Addr) (n cap : Nat) (L : List (List Int)) (gl : Grid w la n cap L) (pa : Option Addr) (m pcap : Nat) (P : List (List Int)) (gp : Grid w pa m pcap P) (hn : n ≤ 50) (hm : m ≤ 50) (hl : ∀ c ∈ L, c.length ≤ 100) (hp : ∀ c ∈ P, c.length ≤ 100) :
    Calls Try.prog 12 #[.slice la n cap, .slice pa m pcap] w fun e w' => BEnd w (IsRef L P) e w' := by
  have HGL := hid gl
  have HGP := hid gp
  have HL := hid hl
  have HP := hid hp
  clear gl gp hl hp
  go_enter Try.func12, Try.ntmps12
  go_wp2
  go_loop [5, 6] (fun v i => ∃ (k : Nat) (t : Bool), k ≤ m ∧ i = .int .i64 k ∧ v = .bool t ∧ Hid ((P.take k).any nulF = t)) (fun _ i => m - (intOf i).toNat)
  case atStart => exact ⟨0, false, Nat.zero_le _, rfl, rfl, rfl⟩
  case round =>
    obtain ⟨k, t, hk, rfl, rfl, ht⟩ := hrel
    by_cases hlt : k < m
    · obtain ⟨b, off, a, mm, cc, ys, rfl, hc, hy, hrow⟩ := HGP.out.at hlt
      have hmx := hrow.out.max
      cases t
      · by_cases h0 : mm = 0
        · subst h0
          have HV : Hid ((P.take (k + 1)).any nulF = true) := hid (by
            have e : nulF ys = true := by simp only [nulF]; rw [hrow.out.1]; simp
            rw [List.take_add_one, hy.out]; simp [e])
          go_wp2
          go_round
          case rel => exact ⟨k + 1, true, by omega, by go_num, rfl, HV⟩
          case measure => simp [intOf]; omega
        · have HV : Hid ((P.take (k + 1)).any nulF = false) := gany_step ht.out hy.out (by simp only [nulF]; rw [hrow.out.1]; simpa using h0)
          have hd : ((mm : Int) == 0) = false := by simpa using h0
          go_wp2
          go_round
          case rel => exact ⟨k + 1, false, by omega, by go_num, rfl, HV⟩
          case measure => simp [intOf]; omega
      · have HV : Hid ((P.take (k + 1)).any nulF = true) := hid (by rw [List.take_add_one, List.any_append, ht.out]; rfl)
        go_wp2
        go_round
        case rel => exact ⟨k + 1, true, by omega, by go_num, rfl, HV⟩
        case measure => simp [intOf]; omega
    · have HE : Hid (P.any nulF = t) := hid (by
        have := ht.out
        rwa [List.take_of_length_le (by rw [HGP.out.1]; omega)] at this)
      clear ht
      cases t
      · go_wp2
        go_ret
        exact ⟨false, rfl, ref_no HE.out, Below.refl _ _⟩
      · go_wp2_with (go_at_call 10; with_reducible (refine (rcheck_any w la n cap L HGL.out pa m pcap P HGP.out hn hm HL.out HP.out).mono ?_); rintro e w2 ⟨r, rfl, hf, hb⟩)
        go_ret
        exact ⟨_, rfl, hid (by rw [← ref_neg HE.out hf.out]; simp), hb⟩

end Go.Proofs.Ytdkkdfgaponlbaa
