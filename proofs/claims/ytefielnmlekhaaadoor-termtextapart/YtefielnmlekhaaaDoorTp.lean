/-
  Terms as texts, as plain data: no Go text here.
-/
import Derived.Test.YtefielnmlekhaaaDoorPl
import Derived.Lib.ItoaMem
import Derived.Lib.Strings
namespace Go.Proofs.YtefielnmlekhaaaDoor
open Go.Lib (decDigits)
set_option linter.unusedVariables false

def dgs (x : Int) : List UInt8 := decDigits x.toNat

def wdsL : List (List UInt8) := [[], [97, 100, 100], [115, 117, 98], [109, 117, 108], [117, 100, 105, 118], [117, 114, 101, 109], [97, 110, 100], [111, 114], [120, 111, 114], [115, 104, 108], [115, 104, 114], [115, 97, 114], [101, 113], [117, 108, 116], [115, 108, 116], [110, 111, 116], [110, 101, 103], [], [], [], [], [], [105, 116, 101], [101, 120, 116], [99, 97, 116], [122, 101, 120, 116], [115, 101, 120, 116]]
/-- The word of an operator. -/
def wordF (op : Int) : List UInt8 := if op < 0 then [] else wdsL.getD op.toNat []

theorem word_len (op : Int) : (wordF op).length ≤ 4 := by
  unfold wordF
  split
  · simp
  · generalize op.toNat = i
    rw [List.getD_eq_getElem?_getD]
    by_cases h : i < 27
    · have key : ∀ j : Fin 27, (wdsL[j.val]?.getD []).length ≤ 4 := by decide +kernel
      exact key ⟨i, h⟩
    · rw [List.getElem?_eq_none (by simp [wdsL]; omega)]; simp

theorem dgs_pos (x : Int) : 0 < (dgs x).length := by
  rw [dgs, Go.Lib.decDigits_length]
  by_cases h : x.toNat < 10
  · rw [Go.Lib.nDigits_small h]; omega
  · rw [Go.Lib.nDigits_big (by omega)]; omega

theorem dgs_len {x : Int} (h1 : x < 18446744073709551616) : (dgs x).length ≤ 20 := by
  rw [dgs, Go.Lib.decDigits_length]
  by_cases h : x.toNat = 0
  · rw [h, Go.Lib.nDigits_small (by omega)]; omega
  · have := Go.Lib.numDigits_eq x.toNat (by omega) (by omega)
    split at this <;> omega

/-- The numbers that stand ahead of a term's parts. -/
def numsF (n : Nd) : List Int := if n.op = 23 then [n.b, n.wd] else if n.op = 25 ∨ n.op = 26 then [n.wd] else []
def headF (n : Nd) : List UInt8 := 40 :: wordF n.op ++ (numsF n).flatMap (fun x => 32 :: dgs x)
def nodeT (n : Nd) (ps : List (List UInt8)) : List UInt8 :=
  if n.op = 20 then dgs n.v ++ 58 :: dgs n.wd else if n.op = 21 then 120 :: dgs n.a ++ 58 :: dgs n.wd else headF n ++ ps.flatMap (fun p => 32 :: p) ++ [41]

def gtT (V : List (List UInt8)) (a : Int) : List UInt8 := V.getD a.toNat []
def textsF (N : List Nd) : Nat → List (List UInt8)
  | 0 => []
  | i + 1 => textsF N i ++ [nodeT (ndA N i) ((ksF (ndA N i)).map (gtT (textsF N i)))]

theorem textsF_len (N : List Nd) (i : Nat) : (textsF N i).length = i := by
  induction i with
  | zero => rfl
  | succ i ih => simp [textsF, ih]
theorem textsF_at (N : List Nd) {i j : Nat} (h : j < i) : (textsF N i).getD j [] = (textsF N (j + 1)).getD j [] := by
  induction i with
  | zero => omega
  | succ i ih =>
    by_cases e : j = i
    · subst e; rfl
    · have := ih (by omega)
      rw [← this]
      have hl := textsF_len N i
      simp only [textsF]
      rw [List.getD_eq_getElem?_getD, List.getD_eq_getElem?_getD, List.getElem?_append_left (by omega)]

/-- The text of the term a, however long it is. -/
def TX (N : List Nd) (a : Int) : List UInt8 := gtT (textsF N N.length) a
theorem TX_nat (N : List Nd) {i j : Nat} (hi : i ≤ N.length) (h : j < i) : gtT (textsF N i) (j : Int) = TX N j := by
  unfold TX gtT
  simp only [Int.toNat_natCast]
  rw [textsF_at N h, textsF_at N (show j < N.length by omega)]

theorem TX_eq {N : List Nd} (r : Wl N) (g : Gd N) {i : Nat} (hi : i < N.length) : TX N i = nodeT (ndA N i) ((ksF (ndA N i)).map (TX N)) := by
  have h1 : TX N i = (textsF N (i + 1)).getD i [] := by
    unfold TX gtT
    rw [Int.toNat_natCast, textsF_at N hi]
  have hl := textsF_len N i
  rw [h1]
  simp only [textsF]
  rw [List.getD_eq_getElem?_getD, List.getElem?_append_right (by omega), hl]
  simp
  congr 1
  apply List.map_congr_left
  intro k hk
  obtain ⟨k0, k1⟩ := ks_ahead (r.shp g hi) k hk
  obtain ⟨j, rfl⟩ := Int.eq_ofNat_of_zero_le k0
  exact TX_nat N (by omega) (by omega)

theorem TX_const {N : List Nd} (r : Wl N) (g : Gd N) {i : Nat} (hi : i < N.length) (ho : (ndA N i).op = 20) : TX N i = dgs (ndA N i).v ++ [58] ++ dgs (ndA N i).wd := by
  rw [TX_eq r g hi, nodeT, if_pos ho]; simp
theorem TX_var {N : List Nd} (r : Wl N) (g : Gd N) {i : Nat} (hi : i < N.length) (ho : (ndA N i).op = 21) : TX N i = [120] ++ dgs (ndA N i).a ++ [58] ++ dgs (ndA N i).wd := by
  rw [TX_eq r g hi, nodeT, if_neg (by omega), if_pos ho]; simp
theorem TX_made {N : List Nd} (r : Wl N) (g : Gd N) {i : Nat} (hi : i < N.length) (h0 : (ndA N i).op ≠ 20) (h1 : (ndA N i).op ≠ 21) :
    TX N i = headF (ndA N i) ++ (ksF (ndA N i)).flatMap (fun a => 32 :: TX N a) ++ [41] := by
  rw [TX_eq r g hi, nodeT, if_neg h0, if_neg h1, List.flatMap_map]

/-- A leaf's text is short. -/
theorem leaf_len {N : List Nd} (r : Wl N) (g : Gd N) {i : Nat} (hi : i < N.length) (ho : (ndA N i).op = 20 ∨ (ndA N i).op = 21) : (TX N i).length ≤ 50 := by
  have hm := ndA_mem (isN_nat hi)
  have hf := g.ft _ hm
  have hw := g.wd _ hm
  have l1 := dgs_len (x := (ndA N i).wd) (by omega)
  have l2 := dgs_len (x := (ndA N i).v) (by have := hf.2.2.2.2.2; omega)
  have l3 := dgs_len (x := (ndA N i).a) (by have := hf.2.2.1; omega)
  rcases ho with ho | ho
  · rw [TX_const r g hi ho]; simp; omega
  · rw [TX_var r g hi ho]; simp; omega

theorem nums_len {n : Nd} (h : Ft n) : ((numsF n).flatMap (fun x => 32 :: dgs x)).length ≤ 42 := by
  have l1 := dgs_len (x := n.wd) (by have := h.2.1; omega)
  have l3 := dgs_len (x := n.b) (by have := h.2.2.2.1; omega)
  unfold numsF
  split
  · simp; omega
  · split
    · simp; omega
    · simp

theorem head_len {n : Nd} (h : Ft n) : (headF n).length ≤ 47 := by
  have := nums_len h
  have := word_len n.op
  unfold headF
  simp only [List.cons_append, List.length_cons, List.length_append]; omega

/-- A part's text is shorter. -/
theorem part_len {N : List Nd} (r : Wl N) (g : Gd N) {i : Nat} (hi : i < N.length) {k : Int} (hk : k ∈ ksF (ndA N i)) : (TX N k).length < (TX N i).length := by
  have h0 : (ndA N i).op ≠ 20 := by intro e; simp [ksF, e] at hk
  have h1 : (ndA N i).op ≠ 21 := by intro e; simp [ksF, e] at hk
  rw [TX_made r g hi h0 h1]
  obtain ⟨s, t, e⟩ := List.append_of_mem hk
  rw [e]
  simp; omega

end Go.Proofs.YtefielnmlekhaaaDoor
