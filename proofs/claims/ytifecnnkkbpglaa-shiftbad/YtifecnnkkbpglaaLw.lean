/-
  The functions of package lit that are called here, each by its contract.
-/
import Derived.Test.YtifecnnkkbpglaaProg
import Derived.Test.YtifecnnkkbpglaaMath
import Derived.WalkKit
import Derived.Handy
import Derived.Below
import Derived.Deep.RegionWith
namespace Go.Proofs.Ytifecnnkkbpglaa
open Go.RowKit
set_option linter.unusedVariables false

/-- none(): a new block holds the result. -/
theorem none_any (w : World) : Calls Try.prog 51 #[] w fun e w' => e = .returned (.agg #[.int .i64 (-1), .bool false]) ∧ w' = w.alloc (.cells #[.int .i64 (-1), .bool false] 88) := by
  go_enter Try.func51, Try.ntmps51
  go_wp2
  go_returns
  exact ⟨rfl, rfl⟩

theorem split_neg (l : Int) (w : World) (h : l < 0) : Calls Try.prog 50 #[.int .i64 l] w fun e w' => e = .returned (.agg #[.int .i64 (-1), .bool false]) ∧ Below w.heap.size w w' := by
  go_enter Try.func50, Try.ntmps50
  go_wp2_with (go_at_call 51; refine (none_any _).mono ?_; rintro e w' ⟨rfl, rfl⟩)
  go_returns
  exact ⟨rfl, by go_grown⟩

theorem split_pos (l : Int) (w : World) (h : ¬ l < 0) (hu : l ≤ 9223372036854775807) : Calls Try.prog 50 #[.int .i64 l] w fun e w' => e = .returned (.agg #[.int .i64 (l / 2), .bool (l % 2 == 1)]) ∧ Below w.heap.size w w' := by
  go_enter Try.func50, Try.ntmps50
  go_wp2
  go_returns
  exact ⟨rfl, by go_grown⟩

theorem join_pos (v : Int) (w : World) (h0 : 0 ≤ v) (h1 : v ≤ 4611686018427387903) : Calls Try.prog 52 #[.agg #[.int .i64 v, .bool false]] w fun e w' => e = .returned (.int .i64 (2 * v)) ∧ Below w.heap.size w w' := by
  go_enter Try.func52, Try.ntmps52
  go_wp2
  go_returns
  exact ⟨rfl, by go_grown⟩

theorem join_neg (v : Int) (w : World) (h0 : 0 ≤ v) (h1 : v ≤ 4611686018427387903) : Calls Try.prog 52 #[.agg #[.int .i64 v, .bool true]] w fun e w' => e = .returned (.int .i64 (2 * v + 1)) ∧ Below w.heap.size w w' := by
  go_enter Try.func52, Try.ntmps52
  go_wp2
  go_returns
  exact ⟨rfl, by go_grown⟩

theorem field0 (x y : Value) (w : World) : (Instr.field 88 (.agg #[x, y]) 0).run Try.prog w = .ok x w := by kernel_rfl

theorem field1 (x y : Value) (w : World) : (Instr.field 88 (.agg #[x, y]) 1).run Try.prog w = .ok y w := by kernel_rfl

theorem var_any (l : Int) (w : World) (hu : l ≤ 9223372036854775807) : Calls Try.prog 55 #[.int .i64 l] w fun e w' => e = .returned (.int .i64 (varF l)) ∧ Below w.heap.size w w' := by
  by_cases h : l < 0
  · have HV : Hid (varF l = -1) := by show varF l = -1; simp [varF, h]
    have f0 := field0
    go_enter Try.func55, Try.ntmps55
    go_wp2_with (go_at_call 50; refine (split_neg _ _ h).mono ?_; rintro e w' ⟨rfl, hb⟩)
    go_returns
    exact ⟨by rw [HV.out]; rfl, by assumption⟩
  · have HV : Hid (varF l = l / 2) := by show varF l = l / 2; simp [varF, h]
    have f0 := field0
    go_enter Try.func55, Try.ntmps55
    go_wp2_with (go_at_call 50; refine (split_pos _ _ h hu).mono ?_; rintro e w' ⟨rfl, hb⟩)
    go_returns
    exact ⟨by rw [HV.out]; rfl, by assumption⟩

set_option maxHeartbeats 1000000 in
theorem not_any (l : Int) (w : World) (hu : l ≤ 9223372036854775807) : Calls Try.prog 36 #[.int .i64 l] w fun e w' => e = .returned (.int .i64 (notF l)) ∧ Below w.heap.size w w' := by
  by_cases h : l < 0
  · have HV : Hid (notF l = l) := by show notF l = l; simp [notF, h]
    go_enter Try.func36, Try.ntmps36
    go_wp2_with (go_at_call 50; refine (split_neg _ _ h).mono ?_; rintro e w' ⟨rfl, hb⟩)
    go_region_with (go_at_call 51; refine (none_any _).mono ?_; rintro e w' ⟨rfl, rfl⟩)
    all_goals go_wp2
    all_goals go_returns
    all_goals exact ⟨by rw [HV.out]; rfl, Below.next hb (by go_grown)⟩
  · have hq : (l / 2 == -1) = false := by simp; omega
    by_cases h2 : (l % 2 == 1) = true
    · have HV : Hid (notF l = 2 * (l / 2)) := by show notF l = _; simp at h2; simp [notF, h, h2]; omega
      have q0 : 0 ≤ l / 2 := by omega
      have q1 : l / 2 ≤ 4611686018427387903 := by omega
      go_enter Try.func36, Try.ntmps36
      go_wp2_with (go_at_call 50; refine (split_pos _ _ h hu).mono ?_; rintro e w' ⟨rfl, hb⟩)
      go_region_with (go_at_call 51; refine (none_any _).mono ?_; rintro e w' ⟨rfl, rfl⟩)
      all_goals go_wp2_with (go_at_call 52; refine (join_pos _ _ q0 q1).mono ?_; rintro e w'' ⟨rfl, hb'⟩)
      all_goals go_returns
      all_goals exact ⟨by rw [HV.out]; rfl, Below.next hb (Below.next (by go_grown) hb')⟩
    · have h2 : (l % 2 == 1) = false := by simpa using h2
      have HV : Hid (notF l = 2 * (l / 2) + 1) := by show notF l = _; simp at h2; simp [notF, h, h2]; omega
      have q0 : 0 ≤ l / 2 := by omega
      have q1 : l / 2 ≤ 4611686018427387903 := by omega
      go_enter Try.func36, Try.ntmps36
      go_wp2_with (go_at_call 50; refine (split_pos _ _ h hu).mono ?_; rintro e w' ⟨rfl, hb⟩)
      go_region_with (go_at_call 51; refine (none_any _).mono ?_; rintro e w' ⟨rfl, rfl⟩)
      all_goals go_wp2_with (go_at_call 52; refine (join_neg _ _ q0 q1).mono ?_; rintro e w'' ⟨rfl, hb'⟩)
      all_goals go_returns
      all_goals exact ⟨by rw [HV.out]; rfl, Below.next hb (Below.next (by go_grown) hb')⟩

/-- A cell of the list, by its block and place. -/
theorem IsBools.at {w : World} {a : Option Addr} {len cap : Nat} {B : Nat → Bool} (h : IsBools w a len cap B) {k : Nat} (hk : k < len) : ∃ b off, a = some ⟨b, off, none⟩ ∧ w.cell? ⟨b, off + k, none⟩ = some (.bool (B k)) := by
  rcases h with ⟨_, h, _⟩ | ⟨⟨b, off, spot⟩, rfl, hl, hm, hc⟩
  · omega
  · have hz := hc 0 (by omega)
    have hk := hc k hk
    have hspot : spot = none := by simpa [Addr.add] using World.cell?_spot hz
    subst hspot
    refine ⟨b, off, rfl, ?_⟩
    by_cases h0 : k = 0
    · subst h0; simpa [Addr.add] using hk
    · simpa [Addr.add, h0] using hk

end Go.Proofs.Ytifecnnkkbpglaa
