/-
  What is still to be read of a text: a prefix, and a number.
-/
import Derived.Test.YtdhkabppcdnfeaaDoorText
import Derived.Test.YtdhkabppcdnfeaaDoorLits
import Derived.Test.YtdhkabppcdnfeaaDoorShelf
import Derived.OneCell
import Derived.LoopTactic
import Derived.OwnWalk
namespace Go.Proofs.YtdhkabppcdnfeaaDoor
open Go.RowKit
open Go.Lib (decDigits itoa hasPrefix trimPrefix)
set_option linter.unusedVariables false

/-- The source's one cell. -/
def Src (w : World) (S : Nat) (bs : List UInt8) : Prop := w.heap[S]? = some (.cells #[.string ⟨bs.toArray⟩] 60 (0, 0))

theorem Src.cell {w : World} {S : Nat} {bs : List UInt8} (h : Src w S bs) : w.cell? ⟨S, 0, none⟩ = some (.string ⟨bs.toArray⟩) := by
  have h' : w.heap[S]? = some (.cells #[.string ⟨bs.toArray⟩] 60 (0, 0)) := h
  simp [World.cell?, h']
theorem Src.free {w : World} {S : Nat} {bs : List UInt8} (h : Src w S bs) : w.frozen? ⟨S, 0, none⟩ = false := by
  have h' : w.heap[S]? = some (.cells #[.string ⟨bs.toArray⟩] 60 (0, 0)) := h
  simp [World.frozen?, h']
theorem Src.set {w : World} {S : Nat} {bs : List UInt8} (h : Src w S bs) (r : List UInt8) : Src (w.setCell ⟨S, 0, none⟩ (.string ⟨r.toArray⟩)) S r := one_setCell h
theorem Src.lt {w : World} {S : Nat} {bs : List UInt8} (h : Src w S bs) : S < w.heap.size := (Array.getElem?_eq_some_iff.1 h).1
theorem Src.kept {w w' : World} {S : Nat} {bs : List UInt8} (h : Src w S bs) (g : w.grownBy w' none) : Src w' S bs := by
  show _ = _; rw [g.block S h.lt (by simp)]; exact h

theorem grown_below {w w' : World} (h : Below w.heap.size w w') (row : Option Nat) : w.grownBy w' row := ⟨h.os, h.tape, h.output, h.size, fun k hk _ => h.block k hk⟩
theorem grown_set (w : World) (S : Nat) (v : Value) : w.grownBy (w.setCell ⟨S, 0, none⟩ v) (some S) :=
  ⟨rfl, rfl, rfl, by simp, fun k _ hk => Below.heap_setCell w _ v k (fun e => hk (by rw [e]))⟩
theorem below_grown {w w' : World} {S : Nat} (h : w.grownBy w' (some S)) (hS : S ≤ w.heap.size) : Below S w w' := ⟨h.os, h.tape, h.output, h.size, fun k hk => h.block k (by omega) (by simp; omega)⟩

theorem take_any (S : Nat) (bs p : List UInt8) (w : World) (h : Src w S bs) :
    Calls Tryd.prog 40 #[.pointer (some ⟨S, 0, none⟩), .string ⟨p.toArray⟩] w fun e w' => e = .returned (.bool (hasPrefix bs p)) ∧ w' = w.setCell ⟨S, 0, none⟩ (.string ⟨(trimPrefix bs p).toArray⟩) := by
  have hc := h.cell
  have hf := h.free
  clear h
  go_enter Tryd.func40, Tryd.ntmps40
  go_wp2_with (go_at_call 51; with_reducible (refine (Tryd.strings_CutPrefix _ _ _).mono ?_); rintro e w1 ⟨rfl, rfl⟩)
  go_ret
  exact ⟨rfl, rfl⟩

theorem digit_any (b : Nat) (w : World) (hb : b < 256) : Calls Tryd.prog 52 #[.int .u8 b] w fun e w' => e = .returned (.bool (decide (48 ≤ b) && decide (b ≤ 57))) ∧ w' = w := by
  by_cases h1 : 48 ≤ b
  · have h1' : (48 : Int) ≤ b := by omega
    by_cases h2 : b ≤ 57
    · have h2' : (b : Int) ≤ 57 := by omega
      go_enter Tryd.func52, Tryd.ntmps52
      go_wp2
      go_ret
      exact ⟨by simp [h1, h2], rfl⟩
    · have h2' : ¬ (b : Int) ≤ 57 := by omega
      go_enter Tryd.func52, Tryd.ntmps52
      go_wp2
      go_ret
      exact ⟨by simp, rfl⟩
  · have h1' : ¬ (48 : Int) ≤ b := by omega
    go_enter Tryd.func52, Tryd.ntmps52
    go_wp2
    go_ret
    exact ⟨by simp, rfl⟩

/-! ### A number -/
/-- What number answers, and where it leaves the text. -/
def NumEnd (S top : Nat) (bs : List UInt8) (w : World) (e : Ending) (w' : World) : Prop :=
  (∃ n r, numP top bs = some (n, r) ∧ e = .returned (.tuple #[.int .i64 n, .nilIface]) ∧ w' = w.setCell ⟨S, 0, none⟩ (.string ⟨r.toArray⟩)) ∨
  (numP top bs = none ∧ ∃ m, e = .returned (.tuple #[.int .i64 0, .iface 50 (.agg #[.string m])]) ∧ w' = w)

theorem ext_drop (bs : List UInt8) (k : Nat) : ({ data := bs.toArray } : ByteArray).extract k bs.length = ⟨(bs.drop k).toArray⟩ := by
  apply ByteArray.ext
  rw [ByteArray.data_extract]
  apply Array.ext'
  simp only [List.extract_toArray, List.extract_eq_take_drop]
  exact List.take_of_length_le (by simp)

theorem byte_at {bs : List UInt8} {k : Nat} (hk : k < bs.length) : ∃ (c : UInt8) (b : Nat), bs[k]? = some c ∧ b = c.toNat ∧ b < 256 ∧ ∀ h, (({ data := bs.toArray } : ByteArray)[k]'h).toNat = b := by
  refine ⟨bs[k], _, by simp [hk], rfl, UInt8.toNat_lt _, fun h => rfl⟩

theorem num_zero {top : Nat} {bs : List UInt8} (h : bs.takeWhile isDig = []) : numP top bs = none := by
  unfold numP; rw [h]; simp [val]
theorem num_zeros {top k : Nat} {bs : List UInt8} (h : bs.takeWhile isDig = bs.take k) (hk : 1 < k) (hl : k ≤ bs.length) (h0 : bs[0]? = some 48) : numP top bs = none := by
  unfold numP
  rw [h]
  split
  · rfl
  split
  · rfl
  rw [if_pos]
  refine ⟨by simp; omega, ?_⟩
  cases bs with
  | nil => simp at h0
  | cons b r =>
    obtain ⟨k, rfl⟩ : ∃ j, k = j + 1 := ⟨k - 1, by omega⟩
    simpa using h0
theorem num_got {top k m : Nat} {bs : List UInt8} (h : bs.takeWhile isDig = bs.take k) (hk : 0 < k) (hl : k ≤ bs.length) (hv : m = val (bs.take k)) (hm : m ≤ top) (h0 : ¬ (1 < k ∧ bs[0]? = some 48)) : numP top bs = some (m, bs.drop k) := by
  unfold numP
  rw [h, ← hv, if_neg (by omega), if_neg, if_neg]
  · rw [List.length_take, Nat.min_eq_left hl]
  · rintro ⟨h1, h2⟩
    refine h0 ⟨by simp at h1; omega, ?_⟩
    cases bs with
    | nil => simp at hl; omega
    | cons b r =>
      obtain ⟨k, rfl⟩ : ∃ j, k = j + 1 := ⟨k - 1, by omega⟩
      simpa using h2
  · intro e
    have e2 : (bs.take k).length = 0 := by rw [e]; rfl
    rw [List.length_take] at e2; omega

set_option maxHeartbeats 4000000 in
theorem number_all (S top : Nat) (bs : List UInt8) (w : World) (h : Src w S bs) (ht : top ≤ 1048576) (hb : bs.length ≤ 1000000) :
    Calls Tryd.prog 41 #[.pointer (some ⟨S, 0, none⟩), .int .i64 top] w fun e w' => NumEnd S top bs w e w' := by
  have hc := h.cell
  have hf := h.free
  clear h
  go_enter Tryd.func41, Tryd.ntmps41
  go_wp2
  go_loop [6, 7] (fun a i => ∃ k m : Nat, k ≤ bs.length ∧ a = .int .i64 m ∧ i = .int .i64 k ∧ m ≤ top ∧ Hid (m = val (bs.take k)) ∧ Hid (∀ b ∈ bs.take k, isDig b = true)) (fun _ i => bs.length - (intOf i).toNat)
  case atStart => exact ⟨0, 0, Nat.zero_le _, rfl, rfl, by omega, hid (by simp [val]), hid (by simp)⟩
  case round =>
    obtain ⟨k, m, hk, rfl, rfl, hm, hv, hd⟩ := hrel
    have stop : (∀ b, bs[k]? = some b → isDig b = false) → Hid (bs.takeWhile isDig = bs.take k) := fun h => tw_stop hd.out h
    by_cases hlt : k < bs.length
    · obtain ⟨c, b, hcc, hbc, h256, hby⟩ := byte_at hlt
      have HC : Hid (bs[k]? = some c) := hcc
      have HB : Hid (b = c.toNat) := hbc
      clear hcc hbc
      by_cases h1 : 48 ≤ b ∧ b ≤ 57
      · have hdig : (decide (48 ≤ b) && decide (b ≤ 57)) = true := by simp [h1]
        have HD : Hid (∀ x ∈ bs.take (k + 1), isDig x = true) := by
          show ∀ x ∈ _, _
          intro x hx
          rw [List.take_add_one, HC.out] at hx
          rcases List.mem_append.1 hx with hx | hx
          · exact hd.out x hx
          · simp at hx; subst hx; rw [isDig, ← HB.out]; exact hdig
        have HV : Hid (val (bs.take (k + 1)) = 10 * m + (b - 48)) := by
          show _ = _
          rw [List.take_add_one, HC.out]
          simp only [Option.toList]
          rw [val_snoc, ← hv.out, dv, ← HB.out]
        by_cases hg : top < 10 * m + (b - 48)
        · have HN : Hid (numP top bs = none) := numP_great HD.out (by rw [HV.out]; exact hg)
          go_wp2_with (go_at_call 52; with_reducible (refine (digit_any _ _ h256).mono ?_); rintro e w1 ⟨rfl, rfl⟩)
          go_ret2
          exact .inr ⟨HN.out, _, rfl, rfl⟩
        · go_wp2_with (go_at_call 52; with_reducible (refine (digit_any _ _ h256).mono ?_); rintro e w1 ⟨rfl, rfl⟩)
          go_round
          case rel => exact ⟨k + 1, 10 * m + (b - 48), by omega, by go_num, by go_num, by omega, hid HV.out.symm, HD⟩
          case measure => simp [intOf]; omega
      · have hdig : (decide (48 ≤ b) && decide (b ≤ 57)) = false := by rw [Bool.and_eq_false_iff]; simp; omega
        have HT := stop (fun x hx => by rw [HC.out] at hx; cases hx; rw [isDig, ← HB.out]; exact hdig)
        clear stop
        by_cases k0 : k = 0
        · subst k0
          have HN : Hid (numP top bs = none) := num_zero (by rw [HT.out]; rfl)
          go_wp2_with (go_at_call 52; with_reducible (refine (digit_any _ _ h256).mono ?_); rintro e w1 ⟨rfl, rfl⟩)
          go_ret2
          exact .inr ⟨HN.out, _, rfl, rfl⟩
        · obtain ⟨c0, b0, hcc0, hbc0, h2560, hby0⟩ := byte_at (bs := bs) (k := 0) (by omega)
          have k0' : ((k : Int) == 0) = false := by simp; omega
          have HG0 : Hid (bs[0]? = some c0 ∧ b0 = c0.toNat) := ⟨hcc0, hbc0⟩
          clear hcc0 hbc0
          by_cases k1 : 1 < k
          · have k1' : (1 : Int) < k := by omega
            by_cases hz : b0 = 48
            · have HN : Hid (numP top bs = none) := num_zeros HT.out k1 hk (by
                rw [HG0.out.1]; congr 1; exact UInt8.toNat_inj.1 (by rw [← HG0.out.2, hz]; rfl))
              go_wp2_with (go_at_call 52; with_reducible (refine (digit_any _ _ h256).mono ?_); rintro e w1 ⟨rfl, rfl⟩)
              go_ret2
              exact .inr ⟨HN.out, _, rfl, rfl⟩
            · have HN : Hid (numP top bs = some (m, bs.drop k)) := num_got HT.out (by omega) hk hv.out hm (by
                rintro ⟨_, h0⟩
                rw [HG0.out.1] at h0
                simp only [Option.some.injEq] at h0
                rw [h0] at HG0
                exact hz HG0.out.2)
              have hz' : ((b0 : Int) == 48) = false := by simp; omega
              go_wp2_with (go_at_call 52; with_reducible (refine (digit_any _ _ h256).mono ?_); rintro e w1 ⟨rfl, rfl⟩)
              go_ret2
              exact .inl ⟨m, _, HN.out, rfl, by rw [ext_drop]⟩
          · have k1' : ¬ (1 : Int) < k := by omega
            have HN : Hid (numP top bs = some (m, bs.drop k)) := num_got HT.out (by omega) hk hv.out hm (fun h => k1 h.1)
            go_wp2_with (go_at_call 52; with_reducible (refine (digit_any _ _ h256).mono ?_); rintro e w1 ⟨rfl, rfl⟩)
            go_ret2
            exact .inl ⟨m, _, HN.out, rfl, by rw [ext_drop]⟩
    · have HT := stop (fun x hx => by obtain ⟨hx, _⟩ := List.getElem?_eq_some_iff.1 hx; omega)
      clear stop
      by_cases k0 : k = 0
      · subst k0
        have HN : Hid (numP top bs = none) := num_zero (by rw [HT.out]; rfl)
        go_wp2
        go_ret2
        exact .inr ⟨HN.out, _, rfl, rfl⟩
      · obtain ⟨c0, b0, hcc0, hbc0, h2560, hby0⟩ := byte_at (bs := bs) (k := 0) (by omega)
        have k0' : ((k : Int) == 0) = false := by simp; omega
        have HG0 : Hid (bs[0]? = some c0 ∧ b0 = c0.toNat) := ⟨hcc0, hbc0⟩
        clear hcc0 hbc0
        by_cases k1 : 1 < k
        · have k1' : (1 : Int) < k := by omega
          by_cases hz : b0 = 48
          · have HN : Hid (numP top bs = none) := num_zeros HT.out k1 hk (by
              rw [HG0.out.1]; congr 1; exact UInt8.toNat_inj.1 (by rw [← HG0.out.2, hz]; rfl))
            go_wp2
            go_ret2
            exact .inr ⟨HN.out, _, rfl, rfl⟩
          · have HN : Hid (numP top bs = some (m, bs.drop k)) := num_got HT.out (by omega) hk hv.out hm (by
              rintro ⟨_, h0⟩
              rw [HG0.out.1] at h0
              simp only [Option.some.injEq] at h0
              rw [h0] at HG0
              exact hz HG0.out.2)
            have hz' : ((b0 : Int) == 48) = false := by simp; omega
            go_wp2
            go_ret2
            exact .inl ⟨m, _, HN.out, rfl, by rw [ext_drop]⟩
        · have k1' : ¬ (1 : Int) < k := by omega
          have HN : Hid (numP top bs = some (m, bs.drop k)) := num_got HT.out (by omega) hk hv.out hm (fun h => k1 h.1)
          go_wp2
          go_ret2
          exact .inl ⟨m, _, HN.out, rfl, by rw [ext_drop]⟩

/-! ### The same, with the world left open -/
theorem take_on (S : Nat) (bs p : List UInt8) (w : World) (h : Src w S bs) :
    Calls Tryd.prog 40 #[.pointer (some ⟨S, 0, none⟩), .string ⟨p.toArray⟩] w fun e w' => e = .returned (.bool (hasPrefix bs p)) ∧ Hid (Src w' S (trimPrefix bs p)) ∧ Hid (w.grownBy w' (some S)) :=
  (take_any S bs p w h).mono fun e w' ⟨he, hw⟩ => by subst hw; exact ⟨he, h.set _, grown_set _ _ _⟩

theorem take_yes (S : Nat) (bs p : List UInt8) (w : World) (h : Src w S bs) (hp : hasPrefix bs p = true) :
    Calls Tryd.prog 40 #[.pointer (some ⟨S, 0, none⟩), .string ⟨p.toArray⟩] w fun e w' => e = .returned (.bool true) ∧ Hid (Src w' S (bs.drop p.length)) ∧ Hid (w.grownBy w' (some S)) :=
  (take_on S bs p w h).mono fun e w' ⟨he, hs, hg⟩ => ⟨by rw [he, hp], by rw [tp_yes hp] at hs; exact hs, hg⟩

theorem take_not (S : Nat) (bs p : List UInt8) (w : World) (h : Src w S bs) (hp : hasPrefix bs p = false) :
    Calls Tryd.prog 40 #[.pointer (some ⟨S, 0, none⟩), .string ⟨p.toArray⟩] w fun e w' => e = .returned (.bool false) ∧ Hid (Src w' S bs) ∧ Hid (w.grownBy w' (some S)) :=
  (take_on S bs p w h).mono fun e w' ⟨he, hs, hg⟩ => ⟨by rw [he, hp], by rw [tp_no hp] at hs; exact hs, hg⟩

theorem number_ok (S top n : Nat) (bs r : List UInt8) (w : World) (h : Src w S bs) (ht : top ≤ 1048576) (hb : bs.length ≤ 1000000) (hn : numP top bs = some (n, r)) :
    Calls Tryd.prog 41 #[.pointer (some ⟨S, 0, none⟩), .int .i64 top] w fun e w' => e = .returned (.tuple #[.int .i64 n, .nilIface]) ∧ Hid (Src w' S r) ∧ Hid (w.grownBy w' (some S)) := by
  refine (number_all S top bs w h ht hb).mono fun e w' he => ?_
  rcases he with ⟨n', r', e1, e2, rfl⟩ | ⟨e1, _⟩
  · rw [hn] at e1
    simp only [Option.some.injEq, Prod.mk.injEq] at e1
    obtain ⟨rfl, rfl⟩ := e1
    exact ⟨e2, h.set _, grown_set _ _ _⟩
  · rw [hn] at e1; cases e1

theorem number_bad (S top : Nat) (bs : List UInt8) (w : World) (h : Src w S bs) (ht : top ≤ 1048576) (hb : bs.length ≤ 1000000) (hn : numP top bs = none) :
    Calls Tryd.prog 41 #[.pointer (some ⟨S, 0, none⟩), .int .i64 top] w fun e w' => ∃ m, e = .returned (.tuple #[.int .i64 0, .iface 50 (.agg #[.string m])]) ∧ Hid (w.grownBy w' (some S)) := by
  refine (number_all S top bs w h ht hb).mono fun e w' he => ?_
  rcases he with ⟨n', r', e1, e2, rfl⟩ | ⟨_, m, e2, rfl⟩
  · rw [hn] at e1; cases e1
  · exact ⟨m, e2, World.grownBy.refl _ _⟩

/-! ### A literal -/
theorem of_pos (n : Nat) (w : World) (h1 : 1 ≤ n) (h2 : n ≤ 1048576) : Calls Tryd.prog 53 #[.int .i64 n] w fun e w' => e = .returned (.tuple #[.int .i64 (2 * ((n : Int) - 1)), .int .i64 0]) ∧ Hid (w.grownBy w' none) := by
  refine (of_any n w (by omega) (by omega)).mono fun e w' ⟨he, hb⟩ => ⟨?_, grown_below hb _⟩
  have e1 : vofF n = (n : Int) - 1 := by simp only [vofF]; rw [if_neg (by omega)]
  have e2 : sofF n = false := by simp [sofF]
  have e3 : ¬ badF ((n : Int) - 1) := by unfold badF; omega
  rw [he, e1, e2, makF, errF, if_neg e3, if_neg e3]; simp [bitF]

theorem of_neg (n : Nat) (w : World) (h1 : 1 ≤ n) (h2 : n ≤ 1048576) : Calls Tryd.prog 53 #[.int .i64 (-(n : Int))] w fun e w' => e = .returned (.tuple #[.int .i64 (2 * ((n : Int) - 1) + 1), .int .i64 0]) ∧ Hid (w.grownBy w' none) := by
  refine (of_any (-(n : Int)) w (by omega) (by omega)).mono fun e w' ⟨he, hb⟩ => ⟨?_, grown_below hb _⟩
  have e1 : vofF (-(n : Int)) = (n : Int) - 1 := by simp only [vofF]; rw [if_pos (by omega)]; omega
  have e2 : sofF (-(n : Int)) = true := by simp [sofF]; omega
  have e3 : ¬ badF ((n : Int) - 1) := by unfold badF; omega
  rw [he, e1, e2, makF, errF, if_neg e3, if_neg e3]; simp [bitF]

theorem of_zero (w : World) : Calls Tryd.prog 53 #[.int .i64 0] w fun e w' => e = .returned (.tuple #[.int .i64 0, .int .i64 10]) ∧ Hid (w.grownBy w' none) := by
  refine (of_any 0 w (by omega) (by omega)).mono fun e w' ⟨he, hb⟩ => ⟨?_, grown_below hb _⟩
  rw [he]; rfl

theorem grown_two {a b c : World} {S : Nat} (h : a.grownBy b (some S)) (k : b.grownBy c (some S)) : a.grownBy c (some S) :=
  ⟨k.os.trans h.os, k.tape.trans h.tape, k.output.trans h.output, Nat.le_trans h.size k.size, fun j hj hn => (k.block j (Nat.lt_of_lt_of_le hj h.size) hn).trans (h.block j hj hn)⟩
theorem grown_new {a b c : World} {S : Nat} (h : a.grownBy b (some S)) (k : b.grownBy c none) : a.grownBy c (some S) :=
  ⟨k.os.trans h.os, k.tape.trans h.tape, k.output.trans h.output, Nat.le_trans h.size k.size, fun j hj hn => (k.block j (Nat.lt_of_lt_of_le hj h.size) (by simp)).trans (h.block j hj hn)⟩
/-- Another block is written that was not there yet. -/
theorem grown_own {a b c : World} {S : Nat} {v : Option Nat} (h : a.grownBy b (some S)) (k : b.grownBy c v) (hv : ∀ j, v = some j → a.heap.size ≤ j) : a.grownBy c (some S) :=
  ⟨k.os.trans h.os, k.tape.trans h.tape, k.output.trans h.output, Nat.le_trans h.size k.size, fun j hj hn => (k.block j (Nat.lt_of_lt_of_le hj h.size) (fun e => by have := hv j e.symm; omega)).trans (h.block j hj hn)⟩

set_option maxHeartbeats 4000000 in
theorem literal_ok (S vars : Nat) (x : Int) (bs r : List UInt8) (w : World) (h : Src w S bs) (hv : vars ≤ 1048576) (hb : bs.length ≤ 1000000) (hx : litP vars bs = some (x, r)) :
    Calls Tryd.prog 42 #[.pointer (some ⟨S, 0, none⟩), .int .i64 vars] w fun e w' => e = .returned (.tuple #[.int .i64 x, .nilIface]) ∧ Hid (Src w' S r) ∧ Hid (w.grownBy w' (some S)) := by
  have HS : Hid (Src w S bs) := h
  clear h
  unfold litP at hx
  split at hx
  · cases hx
  rename_i n r' hn
  split at hx
  · cases hx
  rename_i h0
  simp only [Option.some.injEq, Prod.mk.injEq] at hx
  obtain ⟨hx, rfl⟩ := hx
  have HX := hid hx
  have HN := hid hn
  obtain ⟨_, hle, _⟩ := numP_some hn
  clear hx hn
  cases hp : hasPrefix bs [45]
  · have HE : Hid (x = 2 * ((n : Int) - 1)) := by show _ = _; rw [← HX.out, hp]; simp [bitF]
    have HN2 : Hid (numP vars bs = some (n, r')) := by have := HN.out; rwa [tp_no hp] at this
    have HP := hid hp
    clear hp
    go_enter Tryd.func42, Tryd.ntmps42
    go_wp2_with (first
      | (go_at_call 40; with_reducible (refine (take_not S bs [45] _ HS.out HP.out).mono ?_); rintro e w1 ⟨rfl, hs1, hg1⟩)
      | (go_at_call 41; with_reducible (refine (number_ok S vars n bs r' _ hs1.out hv hb HN2.out).mono ?_); rintro e w2 ⟨rfl, hs2, hg2⟩)
      | (go_at_call 53; with_reducible (refine (of_pos n _ (by omega) (by omega)).mono ?_); rintro e w3 ⟨rfl, hg3⟩))
    go_ret2
    exact ⟨by rw [HE.out]; rfl, hs2.out.kept hg3.out, grown_new (grown_two hg1.out hg2.out) hg3.out⟩
  · have HE : Hid (x = 2 * ((n : Int) - 1) + 1) := by show _ = _; rw [← HX.out, hp]; simp [bitF]
    have HN2 : Hid (numP vars (bs.drop 1) = some (n, r')) := by have := HN.out; rwa [tp_yes hp] at this
    have HP := hid hp
    have hb1 : (bs.drop 1).length ≤ 1000000 := by simp; omega
    clear hp
    go_enter Tryd.func42, Tryd.ntmps42
    go_wp2_with (first
      | (go_at_call 40; with_reducible (refine (take_yes S bs [45] _ HS.out HP.out).mono ?_); rintro e w1 ⟨rfl, hs1, hg1⟩)
      | (go_at_call 41; with_reducible (refine (number_ok S vars n (bs.drop 1) r' _ hs1.out hv hb1 HN2.out).mono ?_); rintro e w2 ⟨rfl, hs2, hg2⟩)
      | (go_at_call 53; with_reducible (refine (of_neg n _ (by omega) (by omega)).mono ?_); rintro e w3 ⟨rfl, hg3⟩))
    go_ret2
    exact ⟨by rw [HE.out]; rfl, hs2.out.kept hg3.out, grown_new (grown_two hg1.out hg2.out) hg3.out⟩

theorem lit_bad {vars : Nat} {bs : List UInt8} (h : litP vars bs = none) : numP vars (trimPrefix bs [45]) = none ∨ ∃ r, numP vars (trimPrefix bs [45]) = some (0, r) := by
  unfold litP at h
  split at h
  · exact .inl (by assumption)
  · rename_i n r hn
    split at h
    · rename_i h0; subst h0; exact .inr ⟨r, hn⟩
    · cases h

set_option maxHeartbeats 4000000 in
theorem literal_bad (S vars : Nat) (bs : List UInt8) (w : World) (h : Src w S bs) (hv : vars ≤ 1048576) (hb : bs.length ≤ 1000000) (hx : litP vars bs = none) :
    Calls Tryd.prog 42 #[.pointer (some ⟨S, 0, none⟩), .int .i64 vars] w fun e w' => ∃ m, e = .returned (.tuple #[.int .i64 0, .iface 50 (.agg #[.string m])]) ∧ Hid (w.grownBy w' (some S)) := by
  have HS : Hid (Src w S bs) := h
  have HX := hid (lit_bad hx)
  have hb1 : (bs.drop 1).length ≤ 1000000 := by simp; omega
  clear h hx
  cases hp : hasPrefix bs [45]
  · rw [tp_no hp] at HX
    have HP := hid hp
    clear hp
    rcases HX.out with hn | ⟨r, hn⟩
    · have HN := hid hn
      clear hn HX
      go_enter Tryd.func42, Tryd.ntmps42
      go_wp2_with (first
        | (go_at_call 40; with_reducible (refine (take_not S bs [45] _ HS.out HP.out).mono ?_); rintro e w1 ⟨rfl, hs1, hg1⟩)
        | (go_at_call 41; with_reducible (refine (number_bad S vars bs _ hs1.out hv hb HN.out).mono ?_); rintro e w2 ⟨m, rfl, hg2⟩))
      go_ret2
      exact ⟨_, rfl, grown_two hg1.out hg2.out⟩
    · have HN := hid hn
      clear hn HX
      go_enter Tryd.func42, Tryd.ntmps42
      go_wp2_with (first
        | (go_at_call 40; with_reducible (refine (take_not S bs [45] _ HS.out HP.out).mono ?_); rintro e w1 ⟨rfl, hs1, hg1⟩)
        | (go_at_call 41; with_reducible (refine (number_ok S vars 0 bs r _ hs1.out hv hb HN.out).mono ?_); rintro e w2 ⟨rfl, hs2, hg2⟩)
        | (go_at_call 53; refine (of_zero _).mono ?_; rintro e w3 ⟨rfl, hg3⟩))
      go_ret2
      exact ⟨_, rfl, grown_new (grown_two hg1.out hg2.out) hg3.out⟩
  · rw [tp_yes hp] at HX
    have HP := hid hp
    clear hp
    rcases HX.out with hn | ⟨r, hn⟩
    · have HN : Hid (numP vars (bs.drop 1) = none) := hn
      clear hn HX
      go_enter Tryd.func42, Tryd.ntmps42
      go_wp2_with (first
        | (go_at_call 40; with_reducible (refine (take_yes S bs [45] _ HS.out HP.out).mono ?_); rintro e w1 ⟨rfl, hs1, hg1⟩)
        | (go_at_call 41; with_reducible (refine (number_bad S vars (bs.drop 1) _ hs1.out hv hb1 HN.out).mono ?_); rintro e w2 ⟨m, rfl, hg2⟩))
      go_ret2
      exact ⟨_, rfl, grown_two hg1.out hg2.out⟩
    · have HN : Hid (numP vars (bs.drop 1) = some (0, r)) := hn
      clear hn HX
      go_enter Tryd.func42, Tryd.ntmps42
      go_wp2_with (first
        | (go_at_call 40; with_reducible (refine (take_yes S bs [45] _ HS.out HP.out).mono ?_); rintro e w1 ⟨rfl, hs1, hg1⟩)
        | (go_at_call 41; with_reducible (refine (number_ok S vars 0 (bs.drop 1) r _ hs1.out hv hb1 HN.out).mono ?_); rintro e w2 ⟨rfl, hs2, hg2⟩)
        | (go_at_call 53; refine (of_zero _).mono ?_; rintro e w3 ⟨rfl, hg3⟩))
      go_ret2
      exact ⟨_, rfl, grown_new (grown_two hg1.out hg2.out) hg3.out⟩

end Go.Proofs.YtdhkabppcdnfeaaDoor
