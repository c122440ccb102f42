/-
  meaning, whatever the term; the closure that asks it.
-/
import Derived.Test.YtbekgejbgmdbdaaMn
namespace Go.Proofs.Ytbekgejbgmdbdaa
open Go.RowKit Go.Maps
set_option linter.unusedVariables false
set_option maxRecDepth 20000

def Wd64 (x : Int) : Prop := 0 ≤ x ∧ x < 18446744073709551616

theorem ahd_is {N : List Nd} {i : Nat} (hi : i ≤ N.length) {a : Int} (h : Ahd i a) : isN N a = true := by
  obtain ⟨h0, h1⟩ := h
  simp [isN]; omega

theorem meaning_any {k : K} {w : World} {N : List Nd} {P : Nat → Prop} {a : Option Addr} {len cap : Nat} {E : List Int} (s : Dg k w N P) (hE : Us w a len E) {i : Nat} (hi : i ≤ N.length) (n : Nd) (hS : Shp N i n) (p q r : Int) (hp : Wd64 p) (hq : Wd64 q) {x : Int} (hx : meanF N E n [p, q, r] = x) :
    Calls Try.prog 29 #[.pointer (some ⟨k.DB, 0, none⟩), .agg #[.int .i64 n.op, .int .i64 n.wd, .int .i64 n.a, .int .i64 n.b, .int .i64 n.c, .int .u64 n.v], .agg #[.int .u64 p, .int .u64 q, .int .u64 r], .slice a len cap] w fun e w' => e = .returned (.int .u64 x) ∧ Hid (Below w.heap.size w w') := by
  subst hx
  obtain ⟨op, wd, na, nb, nc, nv⟩ := n
  have g := s.1
  rcases hS with ⟨e, h⟩ | ⟨e, h1, h2, _⟩ | ⟨e, h⟩ | ⟨e, h⟩ | ⟨e, h⟩ | ⟨e, h1, h2, h3, h4⟩ | ⟨e, h1, h2, h3, h4⟩ | ⟨e, h⟩
  · simp only [] at e; subst e
    exact mn20 s hE wd na nb nc nv p q r
  · simp only [] at e h2; subst e
    exact mn21 s hE wd na nb nc nv p q r h2.1 rfl
  · simp only [] at e
    rcases e with rfl | rfl
    · exact mn15 s hE wd na nb nc nv p q r hp rfl
    · exact mn16 s hE wd na nb nc nv p q r hp rfl
  · simp only [] at e
    refine mnbin s hE op wd na nb nc nv p q r hp hq e.1 e.2 rfl ?_
    have a1 : ¬ op = 20 := by omega
    have a2 : ¬ op = 21 := by omega
    have a3 : ¬ op = 22 := by omega
    have a4 : ¬ op = 23 := by omega
    have a5 : ¬ op = 24 := by omega
    have a6 : ¬ op = 25 := by omega
    have a7 : ¬ op = 26 := by omega
    have a8 : ¬ (op = 15 ∨ op = 16) := by omega
    simp [meanF, a1, a2, a3, a4, a5, a6, a7, a8]
  · simp only [] at e; subst e
    exact mn22 s hE wd na nb nc nv p q r rfl
  · simp only [] at e h2; subst e
    exact mn23 s hE wd na nb nc nv p q r hp hq h2.1 h2.2 rfl
  · simp only [] at e h1 h2 h3 h4; subst e
    have b1 := wdF_in g (ahd_is hi h1)
    have b2 := wdF_in g (ahd_is hi h2)
    exact mn24 s hE wd na nb nc nv p q r hp hq rfl (by omega) (by omega) rfl
  · simp only [] at e
    rcases e with rfl | rfl
    · exact mn25 s hE wd na nb nc nv p q r
    · exact mn26 s hE wd na nb nc nv p q r hp hq rfl rfl

/-- Only the parts that a term has matter. -/
theorem mean_congr {N : List Nd} {E : List Int} {n : Nd} {i : Nat} (hS : Shp N i n) {ps qs : List Int} (h : ∀ j, j < (ksF n).length → ps.getD j 0 = qs.getD j 0) : meanF N E n ps = meanF N E n qs := by
  unfold ksF at h
  unfold meanF
  rcases hS with ⟨e, _⟩ | ⟨e, _⟩ | ⟨e, _⟩ | ⟨e, _⟩ | ⟨e, _⟩ | ⟨e, _⟩ | ⟨e, _⟩ | ⟨e, _⟩
  · simp [e]
  · simp [e]
  · rw [if_neg (by omega), if_neg (by omega), if_pos (by omega)] at h
    have h0 := h 0 (by simp)
    rw [h0]
    rcases e with e | e <;> simp [e]
  · rw [if_neg (by omega), if_neg (by omega), if_neg (by omega)] at h
    rw [h 0 (by simp), h 1 (by simp)]
    have a1 : ¬ n.op = 20 := by omega
    have a2 : ¬ n.op = 21 := by omega
    have a3 : ¬ n.op = 22 := by omega
    have a4 : ¬ n.op = 23 := by omega
    have a5 : ¬ n.op = 24 := by omega
    have a6 : ¬ n.op = 25 := by omega
    have a7 : ¬ n.op = 26 := by omega
    have a8 : ¬ (n.op = 15 ∨ n.op = 16) := by omega
    simp only [a1, a2, a3, a4, a5, a6, a7, a8, if_false]
  · rw [if_neg (by omega), if_pos e] at h
    rw [h 0 (by simp), h 1 (by simp), h 2 (by simp)]
  · rw [if_neg (by omega), if_neg (by omega), if_pos (by omega)] at h
    rw [h 0 (by simp)]
    simp [e]
  · rw [if_neg (by omega), if_neg (by omega), if_neg (by omega)] at h
    rw [h 0 (by simp), h 1 (by simp)]
    simp [e]
  · rw [if_neg (by omega), if_neg (by omega), if_pos (by omega)] at h
    rw [h 0 (by simp)]
    rcases e with e | e <;> simp [e]

theorem value1_any {k : K} {w : World} {N : List Nd} {P : Nat → Prop} {a : Option Addr} {len cap : Nat} {E : List Int} (s : Dg k w N P) (hE : Us w a len E) {i : Nat} (hi : i ≤ N.length) (n : Nd) (hS : Shp N i n) (p q r : Int) (hp : Wd64 p) (hq : Wd64 q) {x : Int} (hx : meanF N E n [p, q, r] = x) {db eb : Nat}
    (hd : w.cell? ⟨db, 0, none⟩ = some (.pointer (some ⟨k.DB, 0, none⟩))) (he : w.cell? ⟨eb, 0, none⟩ = some (.slice a len cap)) :
    Calls Try.prog 28 #[.agg #[.int .i64 n.op, .int .i64 n.wd, .int .i64 n.a, .int .i64 n.b, .int .i64 n.c, .int .u64 n.v], .agg #[.int .u64 p, .int .u64 q, .int .u64 r], .pointer (some ⟨db, 0, none⟩), .pointer (some ⟨eb, 0, none⟩)] w fun e w' => e = .returned (.int .u64 x) ∧ Hid (Below w.heap.size w w') := by
  have HS := hid s
  have HE := hid hE
  have ld := cell_lt hd
  have le := cell_lt he
  have HP := hid hp
  have HQ := hid hq
  have HX := hid hx
  have HI := hid hi
  have HH := hid hS
  simp only [] at ld le
  clear s hE hp hq hx hi hS
  have nd : ¬ db = w.heap.size := by omega
  have ne : ¬ eb = w.heap.size := by omega
  have nd1 : ¬ db = w.heap.size + 1 := by omega
  have ne1 : ¬ eb = w.heap.size + 1 := by omega
  go_enter Try.func28, Try.ntmps28
  go_wp2_with (go_at_call 29; with_reducible (refine (meaning_any (Dg.below HS.out (by go_grown)) (HE.out.below (by go_grown)) HI.out n HH.out p q r HP.out HQ.out HX.out).mono ?_); rintro e w2 ⟨rfl, b2⟩)
  go_ret
  exact ⟨rfl, hid (Below.next (by go_grown) b2.out)⟩

end Go.Proofs.Ytbekgejbgmdbdaa
