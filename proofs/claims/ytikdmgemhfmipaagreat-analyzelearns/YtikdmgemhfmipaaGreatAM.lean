/-
  Marks in an array of pages; the level of a variable.
-/
import Derived.Test.YtikdmgemhfmipaaGreatMT1
import Derived.RangeFuncCalls
namespace Go.Proofs.YtikdmgemhfmipaaGreat
open Go.RowKit
set_option linter.unusedVariables false

def upN (f : Nat → Nat) (v k : Nat) : Nat → Nat := fun i => if i = v then k else f i

theorem upN_same (f : Nat → Nat) (v k : Nat) : upN f v k v = k := by simp [upN]
theorem upN_ne (f : Nat → Nat) {v i : Nat} (k : Nat) (h : i ≠ v) : upN f v k i = f i := by simp [upN, h]

def ptrO (pb : Option Nat) : Value := .pointer (pb.map (fun b => ⟨b, 0, none⟩))

/-- What a page tells of the numbers below 4096. -/
def Pg (w : World) : Option Nat → (Nat → Nat) → Prop
  | none, mk => ∀ i, i < 4096 → mk i = 0
  | some b, mk => ∃ pc, w.heap[b]? = some (.cells pc 103 (0, 0)) ∧ ∀ i, i < 4096 → pc[i]? = some (.int .u8 (mk i))

theorem Pg.keep {w w' : World} {pb : Option Nat} {mk : Nat → Nat} (h : Pg w pb mk) (e : ∀ b, pb = some b → w'.heap[b]? = w.heap[b]?) : Pg w' pb mk := by
  cases pb with
  | none => exact h
  | some b => obtain ⟨pc, h1, h2⟩ := h; exact ⟨pc, by rw [e b rfl]; exact h1, h2⟩

theorem quo0 {i : Nat} (hi : i < 4096) : (i : Int).tdiv 4096 = 0 := by rw [Int.tdiv_eq_ediv_of_nonneg (by omega)]; omega
theorem rem0 {i : Nat} (hi : i < 4096) : (i : Int).tmod 4096 = i := by rw [Int.tmod_eq_emod_of_nonneg (by omega)]; omega

theorem of_is {w : World} {MB off : Nat} {pb : Option Nat} {mk : Nat → Nat} (hc : w.cell? ⟨MB, off, none⟩ = some (ptrO pb)) (hp : Pg w pb mk) (i : Nat) (hi : i < 4096) {y : Int} (hy : (mk i : Int) = y) :
    Calls Tryz.prog 39 #[.pointer (some ⟨MB, off, none⟩), .int .i64 i] w fun e w' => e = .returned (.int .u8 y) ∧ w' = w := by
  subst hy
  have h1 := quo0 hi
  have h2 := rem0 hi
  cases pb with
  | none =>
    have hc2 : w.cell? ⟨MB, off, none⟩ = some (.pointer none) := hc
    rw [hp i hi]
    clear hc
    go_enter Tryz.func39, Tryz.ntmps39
    go_wp2
    go_ret
    exact ⟨rfl, rfl⟩
  | some b =>
    obtain ⟨pc, hb, h⟩ := hp
    have hc1 : w.cell? ⟨MB, off, none⟩ = some (.pointer (some ⟨b, 0, none⟩)) := hc
    have hc2 : w.cell? ⟨b, i, none⟩ = some (.int .u8 (mk i)) := by rw [cell_of hb]; exact h i hi
    have h3 : (i : Int) < 4096 := by omega
    clear h hb hc
    go_enter Tryz.func39, Tryz.ntmps39
    go_wp2
    go_ret
    exact ⟨rfl, rfl⟩

theorem zero_page (i : Nat) (hi : i < 4096) : Tryz.zeroCells103[i]? = some (.int .u8 0) := by
  have h : Tryz.zeroCells103.toList = List.replicate 4096 (.int .u8 0) := by kernel_rfl
  rw [← Array.getElem?_toList, h, List.getElem?_replicate, if_pos hi]

/-- A mark is set. -/
structure MarkEnd (w : World) (MB off : Nat) (T : TypeId) (cs : Array Value) (pb : Option Nat) (mk : Nat → Nat) (i k : Nat) (pb' : Option Nat) (cs' : Array Value) (w' : World) : Prop where
  blk : w'.heap[MB]? = some (.cells cs' T (0, 0))
  ptr : cs'[off]? = some (ptrO pb')
  oth : ∀ o, o ≠ off → cs'[o]? = cs[o]?
  pg : Pg w' pb' (upN mk i k)
  nw : pb' = pb ∨ pb' = some w.heap.size
  os : w'.os = w.os
  tape : w'.tape = w.tape
  output : w'.output = w.output
  size : w.heap.size ≤ w'.heap.size
  block : ∀ j, j < w.heap.size → j ≠ MB → pb ≠ some j → w'.heap[j]? = w.heap[j]?
  ko : KeepsOthers w w'

theorem set_is {w : World} {MB off : Nat} {T : TypeId} {cs : Array Value} {pb : Option Nat} {mk : Nat → Nat} (hb : w.heap[MB]? = some (.cells cs T (0, 0))) (hc : cs[off]? = some (ptrO pb)) (hp : Pg w pb mk) (hm : ∀ b, pb = some b → b ≠ MB) (i : Nat) (hi : i < 4096) (k : Nat) {y : Int} (hy : (k : Int) = y) :
    Calls Tryz.prog 40 #[.pointer (some ⟨MB, off, none⟩), .int .i64 i, .int .u8 y] w fun e w' => e = .returned (.tuple #[]) ∧ ∃ pb' cs', Hid (MarkEnd w MB off T cs pb mk i k pb' cs' w') := by
  subst hy
  have h1 := quo0 hi
  have h2 := rem0 hi
  have h3 : (i : Int) < 4096 := by omega
  have hMB := blk_lt hb
  have hf : w.frozen? ⟨MB, off, none⟩ = false := frozen_of hb
  cases pb with
  | none =>
    have c1 : w.cell? ⟨MB, off, none⟩ = some (.pointer none) := by rw [cell_of hb]; exact hc
    have HB := hid hb
    have HC := hid hc
    have HP := hid hp
    clear hb hc hp hm
    go_enter Tryz.func40, Tryz.ntmps40
    go_wp2
    go_end0
    refine ⟨rfl, some w.heap.size, cs.setIfInBounds off (ptrO (some w.heap.size)), hid ?_⟩
    have hsz : (w.setCell ⟨MB, off, none⟩ (.pointer (some ⟨w.heap.size, 0, none⟩))).heap.size = w.heap.size := by simp [World.setCell]
    have hol : off < cs.size := (Array.getElem?_eq_some_iff.1 HC.out).1
    have hk : ∀ j, j < w.heap.size → ((w.setCell ⟨MB, off, none⟩ (.pointer (some ⟨w.heap.size, 0, none⟩))).alloc (.cells (Tryz.zeroCells103.setIfInBounds i (.int .u8 k)) 103)).heap[j]? = (w.setCell ⟨MB, off, none⟩ (.pointer (some ⟨w.heap.size, 0, none⟩))).heap[j]? := fun j hj => heap_alloc_old _ _ (by rw [hsz]; exact hj)
    refine ⟨?_, ?_, ?_, ?_, .inr rfl, rfl, rfl, rfl, ?_, ?_, ?_⟩
    · rw [hk MB hMB]; exact set_same HB.out _
    · simp [hol]
    · intro o ho; rw [Array.getElem?_setIfInBounds_ne (fun c => ho c.symm)]
    · refine ⟨Tryz.zeroCells103.setIfInBounds i (.int .u8 k), ?_, fun o ho => ?_⟩
      · have := new_same (w.setCell ⟨MB, off, none⟩ (.pointer (some ⟨w.heap.size, 0, none⟩))) (.cells (Tryz.zeroCells103.setIfInBounds i (.int .u8 k)) 103)
        rw [hsz] at this
        exact this
      · rw [Array.getElem?_setIfInBounds]
        have hz := zero_page o ho
        have hl := (Array.getElem?_eq_some_iff.1 hz).1
        by_cases c : i = o
        · subst c; rw [if_pos rfl, if_pos hl, upN_same]
        · rw [if_neg c, hz, upN_ne _ _ (fun e => c e.symm), HP.out o ho]; rfl
    · simp [World.setCell]
    · intro j hj hne _; rw [hk j hj]; exact set_other _ hne
    · exact (KeepsOthers.setCell _ _ _).trans (KeepsOthers.alloc _ _)
  | some b =>
    obtain ⟨pc, hbp, h⟩ := hp
    have c1 : w.cell? ⟨MB, off, none⟩ = some (.pointer (some ⟨b, 0, none⟩)) := by rw [cell_of hb]; exact hc
    have c2 : w.cell? ⟨b, i, none⟩ = some (.int .u8 (mk i)) := by rw [cell_of hbp]; exact h i hi
    have f2 : w.frozen? ⟨b, i, none⟩ = false := frozen_of hbp
    have hne := hm b rfl
    have HB := hid hb
    have HC := hid hc
    have HP := hid hbp
    have H := hid h
    clear hb hc hbp h hm
    go_enter Tryz.func40, Tryz.ntmps40
    go_wp2
    go_end0
    refine ⟨rfl, some b, cs, hid ⟨?_, HC.out, fun _ _ => rfl, ?_, .inl rfl, rfl, rfl, rfl, by simp [World.setCell], ?_, KeepsOthers.setCell _ _ _⟩⟩
    · rw [set_other _ (fun c => hne c.symm)]; exact HB.out
    · refine ⟨_, set_same HP.out _, fun o ho => ?_⟩
      rw [Array.getElem?_setIfInBounds]
      have hl := (Array.getElem?_eq_some_iff.1 (H.out o ho)).1
      by_cases c : i = o
      · subst c; rw [if_pos rfl, if_pos hl, upN_same]
      · rw [if_neg c, H.out o ho, upN_ne _ _ (fun e => c e.symm)]
    · intro j hj _ hb2; exact set_other _ (fun c => hb2 (by rw [c]))

section
variable {k : K} {w : World} {F : Nat → Fc} {ls ss : List Int} {p : V}
theorem level_no (s : Raw k w F ls ss p) (v : Int) (h : isF k.n v = false) : Calls Tryz.prog 26 #[.pointer (some ⟨k.OB, 0, none⟩), .int .i64 v] w fun e w' => e = .returned (.int .i64 (-1)) ∧ w' = w := by
  have HS := hid s
  clear s
  go_enter Tryz.func26, Tryz.ntmps26
  go_wp2_with (go_at_call 47; with_reducible (refine (assigned_no HS.out _ h).mono ?_); rintro e w ⟨rfl, rfl⟩)
  go_ret
  exact ⟨rfl, rfl⟩

theorem level_yes (s : Raw k w F ls ss p) (v : Nat) (h : v < k.n) {y : Int} (hy : ((F v).v = 0 ∧ y = -1) ∨ ((F v).v ≠ 0 ∧ y = (F v).g)) : Calls Tryz.prog 26 #[.pointer (some ⟨k.OB, 0, none⟩), .int .i64 v] w fun e w' => e = .returned (.int .i64 y) ∧ w' = w := by
  have HS := hid s
  obtain ⟨x, hx⟩ : ∃ x, (F v).v = x := ⟨_, rfl⟩
  have HX := hid hx
  rw [hx] at hy
  have c0 := s.c0
  have fa := (s.fa h).2.1
  have h' : (v : Int) < k.n := by omega
  clear s hx
  rcases hy with ⟨hz, rfl⟩ | ⟨hz, hy⟩
  · have hz' : (x != 0) = false := by simpa using hz
    clear hz
    go_enter Tryz.func26, Tryz.ntmps26
    go_wp2_with (go_at_call 47; with_reducible (refine (assigned_yes HS.out _ h HX.out).mono ?_); rintro e w ⟨rfl, rfl⟩)
    go_ret
    exact ⟨rfl, rfl⟩
  · have hz' : (x != 0) = true := by simpa using hz
    rw [← hy] at fa
    clear hz hy
    go_enter Tryz.func26, Tryz.ntmps26
    go_wp2_with (go_at_call 47; with_reducible (refine (assigned_yes HS.out _ h HX.out).mono ?_); rintro e w ⟨rfl, rfl⟩)
    go_ret
    exact ⟨rfl, rfl⟩
end

section
variable {k : K} {w : World} {L : List E} {lev : Nat} {p : V}
theorem level_is (t : Trl k w L lev p) (v : Int) {y : Int} (hy : levelF L v = y) : Calls Tryz.prog 26 #[.pointer (some ⟨k.OB, 0, none⟩), .int .i64 v] w fun e w' => e = .returned (.int .i64 y) ∧ w' = w := by
  obtain ⟨F, S, s, g, _⟩ := t
  subst hy
  cases hi : isF k.n v
  · rw [(g.lookOut (v := v) (by simp [isF] at hi; omega)).1]; exact level_no s v hi
  · obtain ⟨u, rfl, hu⟩ := isF_yes hi
    refine level_yes s u hu ?_
    rcases g.look hu with ⟨h1, h2, _⟩ | ⟨h1, h2, _⟩
    · exact .inl ⟨h1, h2⟩
    · exact .inr ⟨h1, h2⟩
end

theorem level_none (v : Int) (w : World) : Calls Tryz.prog 26 #[.pointer none, .int .i64 v] w fun e w' => e = .returned (.int .i64 (-1)) ∧ w' = w := by
  have ha : Calls Tryz.prog 47 #[.pointer none, .int .i64 v] w fun e w' => e = .returned (.bool false) ∧ w' = w := by
    have hi : Calls Tryz.prog 46 #[.pointer none, .int .i64 v] w fun e w' => e = .returned (.bool false) ∧ w' = w := by
      go_enter Tryz.func46, Tryz.ntmps46
      go_wp2
      go_ret
      exact ⟨rfl, rfl⟩
    go_enter Tryz.func47, Tryz.ntmps47
    go_wp2_with (go_at_call 46; with_reducible (refine hi.mono ?_); rintro e w ⟨rfl, rfl⟩)
    go_ret
    exact ⟨rfl, rfl⟩
  go_enter Tryz.func26, Tryz.ntmps26
  go_wp2_with (go_at_call 47; with_reducible (refine ha.mono ?_); rintro e w ⟨rfl, rfl⟩)
  go_ret
  exact ⟨rfl, rfl⟩

end Go.Proofs.YtikdmgemhfmipaaGreat
