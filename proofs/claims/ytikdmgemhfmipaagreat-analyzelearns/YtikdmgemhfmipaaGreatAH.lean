/-
  All literals of a clause are met; a literal is replaced.
-/
import Derived.Test.YtikdmgemhfmipaaGreatAG
namespace Go.Proofs.YtikdmgemhfmipaaGreat
open Go.RowKit
set_option linter.unusedVariables false

section
variable {k : SK} {w0 w w1 w' : World} {kt : K} {L : List E} {lev : Nat} {p : V} {cls : List (List Int)} {s s' : PS} {v v' : SV} {n : Nat}

theorem take_snoc {c : List Int} {q : Nat} {x : Int} (h : c[q]? = some x) : c.take (q + 1) = c.take q ++ [x] := by
  rw [List.take_add_one, h]; rfl

theorem meets_step {c : List Int} {q : Nat} {x : Int} {s1 s2 : PS} {b : Bool} (h : meetsP L lev s (c.take q) = (true, s1)) (hx : c[q]? = some x) (hm : meetP L lev s1 x = (b, s2)) : meetsP L lev s (c.take (q + 1)) = (b, s2) := by
  rw [take_snoc hx, meets_snoc (by rw [h]), h]; exact hm

theorem meets_stop {c : List Int} {q : Nat} {s2 : PS} (h : meetsP L lev s (c.take q) = (false, s2)) : meetsP L lev s c = (false, s2) := by
  have := meets_app_no (c.take q) (c.drop q) s (by rw [h])
  rw [List.take_append_drop] at this
  rw [this]; exact h

/-- What is so while a clause is gone over. -/
def Going (k : SK) (w0 : World) (n : Nat) (L : List E) (lev : Nat) (w : World) (s : PS) (v : SV) (c : List Int) (q : Nat) (wr : World) : Prop :=
  ∃ s1 v1, meetsP L lev s (c.take q) = (true, s1) ∧ Rn k w0 n wr s1 v1 ∧ SF k v v1 w wr ∧ s.op ≤ s1.op

theorem Going.next {c : List Int} {q : Nat} {x : Int} {wr w3 : World} {s1 s2 : PS} {v1 v2 : SV} (h1 : meetsP L lev s (c.take q) = (true, s1)) (f1 : SF k v v1 w wr) (o1 : s.op ≤ s1.op) (hx : c[q]? = some x) (hm : meetP L lev s1 x = (true, s2)) (r2 : Rn k w0 n w3 s2 v2) (f2 : SF k v1 v2 wr w3) (o2 : s1.op ≤ s2.op) : Going k w0 n L lev w s v c (q + 1) w3 :=
  ⟨s2, v2, meets_step h1 hx hm, r2, f1.trans f2, Int.le_trans o1 o2⟩

def MeetsE (k : SK) (w0 : World) (n : Nat) (w : World) (q : Bool × PS) (v : SV) (e : Ending) (w' : World) : Prop := e = .returned (.bool q.1) ∧ ∃ v', Rn k w0 n w' q.2 v' ∧ SF k v v' w w'

set_option maxHeartbeats 2000000 in
theorem meetAll_is (c : Cm k w0 kt L lev p cls) (h : Rn k w0 kt.n w s v) {ao : Option Addr} {m cap : Nat} {cl : List Int} (row : U.Row w0 ao m cap cl) (hl0 : lev ≠ 0) (hop : -1000000 ≤ s.op) :
    Calls Tryz.prog 33 #[.pointer (some ⟨k.SB, 0, none⟩), .slice ao m cap] w fun e w' => MeetsE k w0 kt.n w (meetsP L lev s cl) v e w' := by
  have HC := hid c
  have HR := hid row
  have hmx := row.max
  have hlen := row.1
  have HG : Hid (Going k w0 kt.n L lev w s v cl 0 w) := hid ⟨s, v, rfl, h, SF.refl _ _ _, Int.le_refl _⟩
  clear c row h
  go_enter Tryz.func33, Tryz.ntmps33
  go_wp2
  go_loopw [6, 9] (fun _ i wr => ∃ q : Nat, q ≤ m ∧ i = .int .i64 q ∧ Hid (Going k w0 kt.n L lev w s v cl q wr)) (fun _ i _ => m - (intOf i).toNat)
  case atStart => exact ⟨0, Nat.zero_le _, rfl, HG⟩
  case round =>
    obtain ⟨q, hq, rfl, hg⟩ := hrel
    obtain ⟨s1, v1, g1, r1, f1, o1⟩ := hg.out
    have G1 := hid g1
    have R1 := hid r1
    have F1 := hid f1
    have O1 := hid o1
    by_cases hlt : q < m
    · have hlt' : (q : Int) < m := by omega
      obtain ⟨b, off, y, rfl, hc, hy, y0, y1⟩ := (HR.out.keep r1.b).at hlt
      have HY := hid hy
      have hop1 : -1000000 ≤ s1.op := by omega
      clear g1 r1 f1 o1 hy hg
      go_wp2_with (go_at_call 52; with_reducible (refine (meet_at HC.out R1.out y y1 hl0 hop1).mono ?_); rintro e w3 ⟨b3, s3, v3, rfl, m3, r3, f3, o3⟩; cases b3)
      · go_ret
        have := meets_stop (meets_step G1.out HY.out.out m3.out)
        rw [this]
        exact ⟨rfl, v3, r3.out, F1.out.trans f3.out⟩
      · go_roundw
        case rel => exact ⟨q + 1, by omega, by go_num, hid (Going.next G1.out F1.out O1.out HY.out.out m3.out r3.out f3.out o3.out)⟩
        case measure => simp only [intOf]; omega
    · obtain rfl : q = m := by omega
      have hlt' : ¬ (q : Int) < q := by omega
      clear g1 r1 f1 o1 hg
      go_wp2
      go_ret
      have e1 : cl.take q = cl := List.take_of_length_le (by omega)
      have := G1.out
      rw [e1] at this
      rw [this]
      exact ⟨rfl, v1, R1.out, F1.out⟩
end

end Go.Proofs.YtikdmgemhfmipaaGreat
