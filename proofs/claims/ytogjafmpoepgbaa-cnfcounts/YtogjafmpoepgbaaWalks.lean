/-
  The functions of package lit, each by its contract.
-/
import Derived.Test.YtogjafmpoepgbaaProg
import Derived.Test.YtogjafmpoepgbaaMath
import Derived.WalkKit
import Derived.Handy
import Derived.Below
import Derived.Deep.RegionWith
namespace Go.Proofs.Ytogjafmpoepgbaa
open Go.RowKit
set_option linter.unusedVariables false

/-- none(): a new block holds the result. -/
theorem none_any (w : World) : Calls Try.prog 37 #[] w fun e w' => e = .returned (.agg #[.int .i64 (-1), .bool false]) ∧ w' = w.alloc (.cells #[.int .i64 (-1), .bool false] 51) := by
  go_enter Try.func37, Try.ntmps37
  go_wp2
  go_returns
  exact ⟨rfl, rfl⟩

theorem split_neg (l : Int) (w : World) (h : l < 0) : Calls Try.prog 29 #[.int .i64 l] w fun e w' => e = .returned (.agg #[.int .i64 (-1), .bool false]) ∧ Below w.heap.size w w' := by
  go_enter Try.func29, Try.ntmps29
  go_wp2_with (go_at_call 37; refine (none_any _).mono ?_; rintro e w' ⟨rfl, rfl⟩)
  go_returns
  exact ⟨rfl, by go_grown⟩

theorem split_pos (l : Int) (w : World) (h : ¬ l < 0) (hu : l ≤ 9223372036854775807) : Calls Try.prog 29 #[.int .i64 l] w fun e w' => e = .returned (.agg #[.int .i64 (l / 2), .bool (l % 2 == 1)]) ∧ Below w.heap.size w w' := by
  go_enter Try.func29, Try.ntmps29
  go_wp2
  go_returns
  exact ⟨rfl, by go_grown⟩

theorem field0 (x y : Value) (w : World) : (Instr.field 51 (.agg #[x, y]) 0).run Try.prog w = .ok x w := by kernel_rfl
theorem field1 (x y : Value) (w : World) : (Instr.field 51 (.agg #[x, y]) 1).run Try.prog w = .ok y w := by kernel_rfl

/-! The numbers of package lit. -/
theorem var_any (l : Int) (w : World) (hu : l ≤ 9223372036854775807) : Calls Try.prog 17 #[.int .i64 l] w fun e w' => e = .returned (.int .i64 (varF l)) ∧ Below w.heap.size w w' := by
  by_cases h : l < 0
  · have HV : Hid (varF l = -1) := by show varF l = -1; simp [varF, h]
    have f0 := field0
    go_enter Try.func17, Try.ntmps17
    go_wp2_with (go_at_call 29; refine (split_neg _ _ h).mono ?_; rintro e w' ⟨rfl, hb⟩)
    go_returns
    exact ⟨by rw [HV.out]; rfl, by assumption⟩
  · have HV : Hid (varF l = l / 2) := by show varF l = l / 2; simp [varF, h]
    have f0 := field0
    go_enter Try.func17, Try.ntmps17
    go_wp2_with (go_at_call 29; refine (split_pos _ _ h hu).mono ?_; rintro e w' ⟨rfl, hb⟩)
    go_returns
    exact ⟨by rw [HV.out]; rfl, by assumption⟩

theorem neg_any (l : Int) (w : World) (hu : l ≤ 9223372036854775807) : Calls Try.prog 42 #[.int .i64 l] w fun e w' => e = .returned (.bool (negF l)) ∧ Below w.heap.size w w' := by
  by_cases h : l < 0
  · have HV : Hid (negF l = false) := by show negF l = false; simp [negF]; omega
    have f1 := field1
    go_enter Try.func42, Try.ntmps42
    go_wp2_with (go_at_call 29; refine (split_neg _ _ h).mono ?_; rintro e w' ⟨rfl, hb⟩)
    go_returns
    exact ⟨by rw [HV.out]; rfl, by assumption⟩
  · have HV : Hid (negF l = (l % 2 == 1)) := by show negF l = (l % 2 == 1); rw [Bool.eq_iff_iff]; simp [negF]; omega
    have f1 := field1
    go_enter Try.func42, Try.ntmps42
    go_wp2_with (go_at_call 29; refine (split_pos _ _ h hu).mono ?_; rintro e w' ⟨rfl, hb⟩)
    go_returns
    exact ⟨by rw [HV.out]; rfl, by assumption⟩

/-- A cell of the list, by its block and place. -/
theorem IsBools.at {w : World} {a : Option Addr} {len cap : Nat} {B : Nat → Bool} (h : IsBools w a len cap B) {k : Nat} (hk : k < len) : ∃ b off, a = some ⟨b, off, none⟩ ∧ w.cell? ⟨b, off + k, none⟩ = some (.bool (B k)) := by
  rcases h with ⟨_, h, _⟩ | ⟨⟨b, off, spot⟩, rfl, hl, hm, hc⟩
  · omega
  · have hz := hc 0 (by omega)
    have hk := hc k hk
    have hspot : spot = none := by simpa [Addr.add] using World.cell?_spot hz
    subst hspot
    refine ⟨b, off, rfl, ?_⟩
    by_cases h0 : k = 0
    · subst h0; simpa [Addr.add] using hk
    · simpa [Addr.add, h0] using hk

theorem truth_any (v : Int) (w : World) (a : Option Addr) (len cap : Nat) (B : Nat → Bool) (hB : IsBools w a len cap B) (h0 : 0 ≤ v) : Calls Try.prog 39 #[.int .i64 v, .slice a len cap] w fun e w' => e = .returned (.bool (truF v len B)) ∧ w' = w := by
  obtain ⟨k, rfl⟩ := Int.eq_ofNat_of_zero_le h0
  by_cases h : k < len
  · obtain ⟨b, off, rfl, hc⟩ := hB.at h
    have HV : Hid (truF k len B = B k) := by show truF k len B = B k; simp [truF, h]
    have h' : (k : Int) < len := by omega
    clear hB h
    go_enter Try.func39, Try.ntmps39
    go_wp2
    go_returns
    exact ⟨by rw [HV.out]; rfl, rfl⟩
  · have HV : Hid (truF k len B = false) := by show truF k len B = false; simp [truF, h]
    have h' : ¬ (k : Int) < len := by omega
    clear hB h
    go_enter Try.func39, Try.ntmps39
    go_wp2
    go_returns
    exact ⟨by rw [HV.out]; rfl, rfl⟩

set_option maxHeartbeats 1000000 in
theorem holds_neg (l : Int) (w : World) (a : Option Addr) (len cap : Nat) (B : Nat → Bool) (hB : IsBools w a len cap B) (h : l < 0) : Calls Try.prog 32 #[.int .i64 l, .slice a len cap] w fun e w' => e = .returned (.bool (holF l len B)) ∧ Below w.heap.size w w' := by
  have HV : Hid (holF l len B = false) := by show holF l len B = false; simp [holF, h]
  clear hB
  go_enter Try.func32, Try.ntmps32
  go_wp2_with (go_at_call 29; refine (split_neg _ _ h).mono ?_; rintro e w' ⟨rfl, hb⟩)
  go_region_with (go_at_call 37; refine (none_any _).mono ?_; rintro e w' ⟨rfl, rfl⟩)
  all_goals go_wp2
  all_goals go_returns
  all_goals exact ⟨by rw [HV.out]; rfl, Below.next hb (by go_grown)⟩

end Go.Proofs.Ytogjafmpoepgbaa
