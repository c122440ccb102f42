/-
  Vars: the variables of a term, rising.
-/
import Derived.Test.YtbekgejbgmdbdaaVl
import Derived.Test.YtbekgejbgmdbdaaSf
import Derived.Lib.RowBridge
namespace Go.Proofs.Ytbekgejbgmdbdaa
open Go.RowKit Go.Maps Go.Sort Go.Lib
set_option linter.unusedVariables false
set_option maxRecDepth 20000

/-! ### the library's sort, at a row of the call's own -/
theorem below_put {g : Nat} {w : World} (d : Array Int) (n : Nat) : Below g w (putRow (Value.int .i64) (Sort.ahead w n) g 0 d) :=
  ⟨rfl, rfl, rfl, by simp, fun k hk => by simp only [putRow, mapBlock, Sort.ahead, Array.getElem?_modify]; rw [if_neg (by omega)]⟩

theorem sort_row (g n cap : Nat) (zs : List Int) (w : World) (hn : zs.length = n) (hH : Holds (Value.int .i64) w g 0 zs.toArray) (hg : g < w.heap.size) (hsz : n < 4611686018427387904) :
    Calls Try.prog 32 #[.slice (some ⟨g, 0, none⟩) n cap] w fun e w' => e = .returned (.tuple #[]) ∧ Hid (Holds (Value.int .i64) w' g 0 (zs.mergeSort fun x y => decide (x ≤ y)).toArray ∧ g < w'.heap.size) ∧ Hid (Below g w w') := by
  subst hn
  refine (Try.slices_Sort_int g 0 cap zs w hH hg hsz).mono ?_
  rintro e w' ⟨rfl, n, os, rfl⟩
  refine ⟨rfl, ⟨?_, ?_⟩, ?_⟩
  · refine holds_grow _ _ _ _ _ _ (by simpa using hg) ?_
    exact holds_putRow _ _ _ _ zs.toArray _ (holds_ahead _ _ _ _ _ _ hH) (by simp)
  · simp; omega
  · refine Below.trans (below_put _ n) ⟨rfl, rfl, rfl, by simp, fun k hk => heap_grow_old _ _ (by simp; omega)⟩

def iC (xs : List Int) : List Value := xs.map (Value.int .i64)

theorem append_int {w : World} {ops : Array Oper} {rest : List Oper} {o : Oper} {a : Act} {Q : Exit → Act → World → Prop} (hgd : o.guard = none) (s y : Operand)
    (ho : o.op = .call { callee := .builtin .append, args := #[s, y], argTypes := #[37, 37] }) (B : Nat) (v : Value) (xs : List Int) (x : Int) (hs : a.eval s = v) (own : w.ownsRow B 3 1 v xs.length (iC xs)) (q : Nat) (hq : q = w.heap.size)
    (hx : a.eval y = .slice (some ⟨q, 0, none⟩) 1 1) (hbd : xs.length ≤ 1000000) (hB : B ≤ w.heap.size)
    (h : ∀ v' w', Hid (w'.ownsRow B 3 1 v' (xs ++ [x]).length (iC (xs ++ [x]))) → Hid ((w.alloc (.cells #[.int .i64 x] 3)).grownBy w' v.ownBlock) → wpList Try.prog ops Q rest (a.put o.dst v') w') : wpList Try.prog ops Q (o :: rest) a (w.alloc (.cells #[.int .i64 x] 3)) := by
  subst hq
  obtain ⟨i0, hi, hz0, hz1, hz2⟩ := info_parts Ls.Try.info3
  refine wpList_append_own_at (P := Try.prog) (w := w.alloc (.cells #[.int .i64 x] 3)) hgd s y 37 ho B 3 i0 (.int .i64 0) 1 8 Try.underlying37 hi hz0 hz1 hz2 rfl (by decide) v xs.length _ hs (own.alloc _) ⟨w.heap.size, 0, none⟩ 1 1 [.int .i64 x] hx rfl (cell_one_new w _ _) (by intro u hu; simp at hu; subst hu; rfl) (by unfold maxLen; omega) (by omega) (by simp; omega) ?_
  intro v' w' h1 h2 _ h4
  exact h v' w' (hid (by simpa [iC] using h1)) (hid h2)

/-! ### plain -/
def vsF (N : List Nd) (T : List Nat) : List Int := (T.filter (isV N)).map fun (j : Nat) => (ndA N j).a

theorem vsF_yes {N : List Nd} {T : List Nat} {j : Nat} (h : isV N j = true) : vsF N (T ++ [j]) = vsF N T ++ [(ndA N j).a] := by simp [vsF, List.filter_append, h]
theorem vsF_no {N : List Nd} {T : List Nat} {j : Nat} (h : isV N j = false) : vsF N (T ++ [j]) = vsF N T := by simp [vsF, List.filter_append, h]
theorem vsF_len (N : List Nd) (T : List Nat) : (vsF N T).length ≤ T.length := by unfold vsF; rw [List.length_map]; exact List.length_filter_le _ _

theorem pw_of {α : Type} {R S : α → α → Prop} {l : List α} (h : l.Pairwise R) (f : ∀ a, a ∈ l → ∀ b, b ∈ l → R a b → S a b) : l.Pairwise S := by
  induction l with
  | nil => exact List.Pairwise.nil
  | cons x xs ih =>
    obtain ⟨h1, h2⟩ := List.pairwise_cons.1 h
    exact List.pairwise_cons.2 ⟨fun b hb => f x (by simp) b (by simp [hb]) (h1 b hb), ih h2 fun a ha b hb => f a (by simp [ha]) b (by simp [hb])⟩

theorem vars_sorted {N : List Nd} (r : Wl N) (g : Gd N) {id : Nat} (hi : id < N.length) {T : List Nat} (hT : BelL N id T) {vs : List Int} (hv : VarL N id vs) : ((vsF N T).mergeSort fun x y => decide (x ≤ y)) = vs := by
  have hp := List.mergeSort_perm (vsF N T) (fun x y => decide (x ≤ y))
  have hlt : ∀ j ∈ T, j < N.length := fun j hj => by have := ((hT.2 j).1 hj).le r g hi; omega
  have hnd : (vsF N T).Nodup := by
    unfold vsF
    refine List.pairwise_map.2 (pw_of (hT.1.filter _) fun x hx y hy hne e => hne ?_)
    obtain ⟨hx1, hx2⟩ := List.mem_filter.1 hx
    obtain ⟨hy1, hy2⟩ := List.mem_filter.1 hy
    exact var_one r g (hlt x hx1) (hlt y hy1) hx2 hy2 e
  have hs : ((vsF N T).mergeSort fun x y => decide (x ≤ y)).Pairwise (· ≤ ·) := by
    have := List.pairwise_mergeSort (le := fun x y : Int => decide (x ≤ y)) (fun a b c => by simp; omega) (fun a b => by simp; omega) (vsF N T)
    exact pw_of this fun a _ b _ h => by simpa using h
  have hs2 : ((vsF N T).mergeSort fun x y => decide (x ≤ y)).Pairwise (· < ·) := by
    have hn2 : ((vsF N T).mergeSort fun x y => decide (x ≤ y)).Nodup := hp.nodup_iff.2 hnd
    exact pw_of (hs.and hn2) fun a _ b _ h => by have := h.1; have := h.2; omega
  refine rise_eq hs2 hv.1 fun a => ?_
  rw [hp.mem_iff, hv.2]
  unfold vsF
  rw [List.mem_map]
  constructor
  · rintro ⟨j, hj, e⟩
    obtain ⟨h1, h2⟩ := List.mem_filter.1 hj
    exact ⟨j, (hT.2 j).1 h1, h2, e⟩
  · rintro ⟨j, hj, h2, e⟩
    exact ⟨j, List.mem_filter.2 ⟨(hT.2 j).2 hj, h2⟩, e⟩

theorem vs_fit {N : List Nd} (g : Gd N) {id : Nat} {vs : List Int} (hv : VarL N id vs) (hlt : ∀ j, Rch N id j → j < N.length) : Ls.Fit vs := by
  intro x hx
  obtain ⟨j, h1, h2, rfl⟩ := (hv.2 x).1 hx
  have := (g.ft _ (ndA_mem (isN_nat (hlt j h1)))).2.2.1
  exact this

end Go.Proofs.Ytbekgejbgmdbdaa
