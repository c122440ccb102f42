/-
  takeAll: what is taken to hold; settleAll: the clauses that have one literal from the beginning on, or none.
-/
import Derived.Test.YtdkkdfgaponlbaaSpread
namespace Go.Proofs.Ytdkkdfgaponlbaa
open Go.RowKit Go.Maps
set_option linter.unusedVariables false

def TakeAllEnd (k : K) (fst : Int → Int) (us : List (Int × Int)) (op : List Int) (L : List (List Int)) (S : List Int) (e : Ending) (w' : World) : Prop :=
  (e = .returned (.bool false) ∧ Bad L S ∧ Below k.w0.heap.size k.w0 w') ∨
  (e = .returned (.bool true) ∧ ∃ H, P2 k fst us op H w' ∧ (∀ y ∈ H, Der L S y) ∧ ∀ y ∈ S, 0 ≤ y → y ∈ H)

def TakeRel (k : K) (fst : Int → Int) (us : List (Int × Int)) (op : List Int) (L : List (List Int)) (S : List Int) (q : Nat) (H : List Int) (w : World) : Prop :=
  P2 k fst us op H w ∧ (∀ y ∈ H, Der L S y) ∧ ∀ y ∈ S.take q, 0 ≤ y → y ∈ H

theorem take_rel_skip {k : K} {fst : Int → Int} {us : List (Int × Int)} {op : List Int} {L : List (List Int)} {S H : List Int} {q : Nat} {w : World} {y : Int} (h : TakeRel k fst us op L S q H w) (hy : S[q]? = some y) (hn : y < 0) : TakeRel k fst us op L S (q + 1) H w := by
  refine ⟨h.1, h.2.1, fun z hz z0 => ?_⟩
  rw [List.take_add_one, hy] at hz
  rcases List.mem_append.1 hz with hz | hz
  · exact h.2.2 z hz z0
  · simp at hz; omega

theorem take_rel_next {k : K} {fst : Int → Int} {us : List (Int × Int)} {op : List Int} {L : List (List Int)} {S H : List Int} {q : Nat} {w w' : World} {y : Int} (h : TakeRel k fst us op L S q H w) (hy : S[q]? = some y) (y0 : 0 ≤ y) (hp : P2 k fst us op (addH H y) w') : TakeRel k fst us op L S (q + 1) (addH H y) w' := by
  refine ⟨hp, fun z hz => ?_, fun z hz z0 => ?_⟩
  · rcases mem_addH.1 hz with hz | rfl
    · exact h.2.1 z hz
    · exact .base (List.mem_of_getElem? hy) y0
  · rw [List.take_add_one, hy] at hz
    rcases List.mem_append.1 hz with hz | hz
    · exact mem_addH.2 (.inl (h.2.2 z hz z0))
    · simp at hz; exact mem_addH.2 (.inr hz)

set_option maxHeartbeats 2000000 in
theorem takeAll_any (k : K) (fst : Int → Int) (us : List (Int × Int)) (op : List Int) (L : List (List Int)) (S : List Int) (w : World) (hp : P2 k fst us op [] w) (sa : Option Addr) (sn scap : Nat) (hr : Row k.w0 sa sn scap S) (ham : Among k S) :
    Calls Try.prog 33 #[.pointer (some ⟨k.C, 0, none⟩), .slice sa sn scap] w fun e w' => TakeAllEnd k fst us op L S e w' := by
  have HR0 := hid hr
  have HP := hid hp
  have HA := hid ham
  have hmx := hr.max
  clear hr hp ham
  go_enter Try.func33, Try.ntmps33
  go_wp2
  go_loopw [6, 9] (fun _ j wr => ∃ (q : Nat) (H : List Int), q ≤ sn ∧ j = .int .i64 q ∧ Hid (TakeRel k fst us op L S q H wr)) (fun _ j _ => sn - (intOf j).toNat)
  case atStart => exact ⟨0, [], Nat.zero_le _, rfl, hid ⟨HP.out, fun y hy => by simp at hy, fun y hy => by simp at hy⟩⟩
  case round =>
    clear HP
    obtain ⟨q, H, hq, rfl, hrel⟩ := hrel
    have HP2 := hid hrel.out.1
    by_cases hlt : q < sn
    · obtain ⟨b1, off1, y, rfl, hc1, hy, y0, y1⟩ := (HR0.out.keep hrel.out.1.be).at hlt
      have hmem := hid (List.mem_of_getElem? hy.out)
      by_cases hneg : y < 0
      · have HW := hid (take_rel_skip hrel.out hy.out hneg)
        have hneg' : decide ((0 : Int) ≤ y) = false := by simp; omega
        go_wp2
        go_roundw
        case rel => exact ⟨q + 1, H, by omega, by go_num, HW⟩
        case measure => simp [intOf]; omega
      · have hpos : (0 : Int) ≤ y := by omega
        have HK := hid (HA.out y hmem.out hpos)
        by_cases hin2 : notF y ∈ H
        · have HB : Hid (Bad L S) := hid (.inl ⟨y, .base hmem.out hpos, hrel.out.2.1 _ hin2⟩)
          have HN := hid hin2
          clear hin2
          go_wp2_with (go_at_call 41; with_reducible (refine (take_no k fst us op H _ HP2.out _ HK.out.1 HK.out.2 HN.out).mono ?_); rintro e w3 ⟨rfl, hp3⟩)
          go_ret
          exact .inl ⟨rfl, HB.out, hp3.out.be⟩
        · have HN := hid hin2
          clear hin2
          go_wp2_with (go_at_call 41; with_reducible (refine (take_yes k fst us op H _ HP2.out _ HK.out.1 HK.out.2 HN.out).mono ?_); rintro e w3 ⟨rfl, hp3⟩)
          go_roundw
          case rel => exact ⟨q + 1, addH H y, by omega, by go_num, hid (take_rel_next hrel.out hy.out hpos hp3.out)⟩
          case measure => simp [intOf]; omega
    · have HW : Hid (∀ y ∈ S, 0 ≤ y → y ∈ H) := hid (by
        have := hrel.out.2.2
        rwa [List.take_of_length_le (by rw [HR0.out.1]; omega)] at this)
      go_wp2
      go_ret
      exact .inr ⟨rfl, H, hrel.out.1, hrel.out.2.1, HW.out⟩

def SetRel (k : K) (fst : Int → Int) (us : List (Int × Int)) (op : List Int) (L : List (List Int)) (S H : List Int) (q : Nat) (T : List Int) (w : World) : Prop :=
  P2 k fst us op (H ++ T) w ∧ (∀ y ∈ H ++ T, Der L S y) ∧ ∀ i c, i < q → L[i]? = some c → (dd c).length ≤ 1 → ∃ y ∈ c, y ∈ H ++ T

theorem set_rel_skip {k : K} {fst : Int → Int} {us : List (Int × Int)} {op : List Int} {L : List (List Int)} {S H T c : List Int} {q : Nat} {w : World} (h : SetRel k fst us op L S H q T w) (hc : L[q]? = some c) (hn : ¬ (dd c).length ≤ 1) : SetRel k fst us op L S H (q + 1) T w := by
  refine ⟨h.1, h.2.1, fun i c' hi hc' hl => ?_⟩
  by_cases e : i = q
  · subst e; rw [hc] at hc'; cases hc'; exact absurd hl hn
  · exact h.2.2 i c' (by omega) hc' hl

theorem set_rel_next {k : K} {fst : Int → Int} {us : List (Int × Int)} {op : List Int} {L : List (List Int)} {S H T c : List Int} {q : Nat} {w w' : World} {y : Int} (h : SetRel k fst us op L S H q T w) (hc : L[q]? = some c) (hl : (dd c).length ≤ 1)
    (hy : y ∈ c ∧ 0 ≤ y ∧ notF y ∉ H ++ T) (hp : P2 k fst us op (addH (H ++ T) y) w') : ∃ T', SetRel k fst us op L S H (q + 1) T' w' := by
  obtain ⟨T2, e⟩ := addH_pre (H ++ T) y
  rw [e, List.append_assoc] at hp
  have hsub : ∀ z, z ∈ H ++ (T ++ T2) ↔ z ∈ H ++ T ∨ z = y := fun z => by rw [← List.append_assoc, ← e]; exact mem_addH
  refine ⟨T ++ T2, hp, fun z hz => ?_, fun i c' hi hc' hl' => ?_⟩
  · rcases (hsub z).1 hz with hz | rfl
    · exact h.2.1 z hz
    · refine settle_der (st := fun _ => false) (List.mem_of_getElem? hc) (fun z hz => by cases hz) h.2.1 ?_ hy.1 hy.2.1 hy.2.2
      rw [cnt_none]; exact hl
  · by_cases e2 : i = q
    · subst e2; rw [hc] at hc'; cases hc'
      exact ⟨y, hy.1, (hsub y).2 (.inr rfl)⟩
    · obtain ⟨z, hz, hz2⟩ := h.2.2 i c' (by omega) hc' hl'
      exact ⟨z, hz, (hsub z).2 (.inl hz2)⟩

def SetAllEnd (k : K) (fst : Int → Int) (us : List (Int × Int)) (op : List Int) (L : List (List Int)) (S H : List Int) (e : Ending) (w' : World) : Prop :=
  (e = .returned (.bool false) ∧ Bad L S ∧ Below k.w0.heap.size k.w0 w') ∨
  (e = .returned (.bool true) ∧ ∃ T, P2 k fst us op (H ++ T) w' ∧ Gd L S op (H ++ T) (fun _ _ => false))

def OpOk (L : List (List Int)) (op : List Int) : Prop := ∀ (i : Nat) (c : List Int), L[i]? = some c → op[i]? = some (((dd c).length : Nat) : Int)

theorem P2.c1 {k : K} {fst : Int → Int} {us : List (Int × Int)} {op H : List Int} {w : World} (h : P2 k fst us op H w) : w.cell? ⟨k.C, 1, none⟩ = some (.slice (some ⟨k.OB, 0, none⟩) k.n k.n) := by
  obtain ⟨F, M, ks, uv, hv, s, _⟩ := h; exact s.c1

set_option maxHeartbeats 2000000 in
theorem settleAll_any (k : K) (fst : Int → Int) (us : List (Int × Int)) (op : List Int) (L : List (List Int)) (S H : List Int) (w : World) (hp : P2 k fst us op H w) (hd : ∀ y ∈ H, Der L S y) (ho : OpOk L op) (gr : Grid k.w0 k.la k.n k.cap L) (ham : ∀ c ∈ L, Among k c) :
    Calls Try.prog 34 #[.pointer (some ⟨k.C, 0, none⟩)] w fun e w' => SetAllEnd k fst us op L S H e w' := by
  have HP := hid hp
  have HD := hid hd
  have HO := hid ho
  have HGR := hid gr
  have HAM := hid ham
  have hmx := gr.max
  have c1 := hp.c1
  clear hp hd ho gr ham
  go_enter Try.func34, Try.ntmps34
  go_wp2
  go_loopw [3, 4, 10] (fun _ _ j wr => ∃ (q : Nat) (T : List Int), q ≤ k.n ∧ j = .int .i64 q ∧ Hid (SetRel k fst us op L S H q T wr)) (fun _ _ j _ => k.n - (intOf j).toNat)
  case atStart => exact ⟨0, [], Nat.zero_le _, rfl, hid ⟨by rw [List.append_nil]; exact HP.out, by rw [List.append_nil]; exact HD.out, fun i c hi => by omega⟩⟩
  case round =>
    clear HP HD c1
    obtain ⟨q, T, hq, rfl, hrel⟩ := hrel
    have HP2 := hid hrel.out.1
    by_cases hlt : q < k.n
    · obtain ⟨c, hc⟩ : ∃ c, L[q]? = some c := ⟨_, List.getElem?_eq_getElem (by rw [HGR.out.1]; exact hlt)⟩
      have HC := hid hc
      obtain ⟨m, hm⟩ : ∃ m : Nat, m = (dd c).length := ⟨_, rfl⟩
      have hop := HO.out q c hc
      rw [← hm] at hop
      obtain ⟨_, v1, _⟩ := hrel.out.1.op hop
      have HAMc := hid (among_at HAM.out hc)
      have hmb : m ≤ 9223372036854775807 := by
        obtain ⟨b9, off9, a9, m9, c9, ys9, _, _, hy9, hr9⟩ := HGR.out.at hlt
        have := hy9.out; rw [hc] at this; cases this
        have h1 := hr9.out.max; have h2 := hr9.out.1; have h3 := dd_len c
        omega
      clear hc hop
      by_cases h1 : m ≤ 1
      · have h1' : (m : Int) ≤ 1 := by omega
        by_cases hall : ∀ y ∈ c, 0 ≤ y → notF y ∈ H ++ T
        · have HB := hid (settle_bad (S := S) (List.mem_of_getElem? HC.out) hrel.out.2.1 hall)
          have HALL := hid hall
          clear hall hm
          go_wp2_with (go_at_call 42; with_reducible (refine (settle_no k fst us _ _ c L _ HP2.out HGR.out q HC.out HAMc.out HALL.out).mono ?_); rintro e w5 ⟨rfl, hp5⟩)
          go_ret
          exact .inl ⟨rfl, HB.out, hp5.out.be⟩
        · have HALL := hid hall
          have HL : Hid ((dd c).length ≤ 1) := hid (by omega)
          clear hall hm
          go_wp2_with (go_at_call 42; with_reducible (refine (settle_yes k fst us _ _ c L _ HP2.out HGR.out q HC.out HAMc.out HALL.out).mono ?_); rintro e w5 ⟨y, rfl, hy, hp5⟩)
          go_roundw
          case rel =>
            obtain ⟨T', hT'⟩ := set_rel_next hrel.out HC.out HL.out hy.out hp5.out
            exact ⟨q + 1, T', by omega, by go_num, hid hT'⟩
          case measure => simp [intOf]; omega
      · have h1' : decide ((m : Int) ≤ 1) = false := by simp; omega
        have HW := hid (set_rel_skip hrel.out HC.out (by omega))
        clear hm
        go_wp2
        go_roundw
        case rel => exact ⟨q + 1, T, by omega, by go_num, HW⟩
        case measure => simp [intOf]; omega
    · have HW : Hid (Gd L S op (H ++ T) (fun _ _ => false)) := hid (by
        refine ⟨fun i c hi => ?_, (fun i y h => by cases h), fun i c hi hl => ?_, hrel.out.2.1⟩
        · rw [HO.out i c hi, cnt_none]
        · rw [cnt_none] at hl
          refine hrel.out.2.2 i c ?_ hi hl
          have := (List.getElem?_eq_some_iff.1 hi).1; rw [HGR.out.1] at this; omega)
      go_wp2
      go_ret
      exact .inr ⟨rfl, T, hrel.out.1, HW.out⟩

end Go.Proofs.Ytdkkdfgaponlbaa
