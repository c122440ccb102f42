/-
  Value, Size.
-/
import Derived.Test.YtbekgejbgmdbdaaRw
namespace Go.Proofs.Ytbekgejbgmdbdaa
open Go.RowKit Go.Maps
set_option linter.unusedVariables false
set_option maxRecDepth 20000

theorem node_out {k : K} {w : World} {N : List Nd} {P : Nat → Prop} (s : Dg k w N P) (id : Int) (hi : isN N id = false) : Calls Try.prog 58 #[.pointer (some ⟨k.DB, 0, none⟩), .int .i64 id] w fun e w' =>
    e = .returned (.tuple #[.agg #[.int .i64 0, .int .i64 0, .int .i64 0, .int .i64 0, .int .i64 0, .int .u64 0], .bool false]) ∧ Hid (Below w.heap.size w w') := node_as s id (by rw [ndA_no hi]; rfl) hi

theorem reckon_u0 {k : K} {w : World} {N : List Nd} {P : Nat → Prop} (s : Dg k w N P) (id : Int) (hi : isN N id = false) (f : Value) (val : Nat → Int) :
    Calls Try.prog 27 #[.pointer (some ⟨k.DB, 0, none⟩), .int .i64 id, f] w fun e w' => ∃ mb, e = .returned (.map (some mb)) ∧ Hid (HeldIs uR w' mb [] val) ∧ Hid (Below w.heap.size w w') := by
  have HS := hid s
  have HI := hid hi
  have hmm := @run_makeMap Try.prog
  clear s hi
  go_enter Try.func27, Try.ntmps27
  go_wp2_with (go_at_call 58; with_reducible (refine (node_out (Dg.below HS.out (by go_grown)) id HI.out).mono ?_); rintro e w2 ⟨rfl, b2⟩)
  go_ret
  exact ⟨_, rfl, hid (((HeldIs.made uR val w).below b2.out).below (new_b _ _)), hid (Below.next (by go_grown) (Below.next b2.out (new_b _ _)))⟩

theorem reckon_n0 {k : K} {w : World} {N : List Nd} {P : Nat → Prop} (s : Dg k w N P) (id : Int) (hi : isN N id = false) (f : Value) (val : Nat → Nd) :
    Calls Try.prog 30 #[.pointer (some ⟨k.DB, 0, none⟩), .int .i64 id, f] w fun e w' => ∃ mb, e = .returned (.map (some mb)) ∧ Hid (HeldIs nR w' mb [] val) ∧ Hid (Below w.heap.size w w') := by
  have HS := hid s
  have HI := hid hi
  have hmm := @run_makeMap Try.prog
  clear s hi
  go_enter Try.func30, Try.ntmps30
  go_wp2_with (go_at_call 58; with_reducible (refine (node_out (Dg.below HS.out (by go_grown)) id HI.out).mono ?_); rintro e w2 ⟨rfl, b2⟩)
  go_ret
  exact ⟨_, rfl, hid (((HeldIs.made nR val w).below b2.out).below (new_b _ _)), hid (Below.next (by go_grown) (Below.next b2.out (new_b _ _)))⟩

theorem uFind {w : World} {mb : Nat} {H : List Nat} {val : Nat → Int} (h : HeldIs uR w mb H val) {j : Nat} (hj : j ∈ H) (hb : j ≤ 1000000) {x : Int} (hx : val j = x) : (Instr.lookup 62 (.map (some mb)) (.int .i64 j) true).run Try.prog w = .ok (.tuple #[.int .u64 x, .bool true]) w := by
  subst hx; exact h.look_in hj hb
theorem uNone {w : World} {mb : Nat} {val : Nat → Int} (h : HeldIs uR w mb [] val) (id : Int) (h0 : -9223372036854775808 ≤ id) (h1 : id ≤ 9223372036854775807) : (Instr.lookup 62 (.map (some mb)) (.int .i64 id) true).run Try.prog w = .ok (.tuple #[.int .u64 0, .bool false]) w :=
  h.look_out (fun k hk => by simp at hk) h0 h1

theorem boxes_two (w : World) (x y : Value) : ((w.alloc (.cells #[x] 25)).alloc (.cells #[y] 23)).cell? ⟨w.heap.size, 0, none⟩ = some x ∧ ((w.alloc (.cells #[x] 25)).alloc (.cells #[y] 23)).cell? ⟨w.heap.size + 1, 0, none⟩ = some y := by
  have h1 := new_same w (.cells #[x] 25)
  have h2 := new_same (w.alloc (.cells #[x] 25)) (.cells #[y] 23)
  have b : Below (w.alloc (.cells #[x] 25)).heap.size (w.alloc (.cells #[x] 25)) ((w.alloc (.cells #[x] 25)).alloc (.cells #[y] 23)) := by go_grown
  refine ⟨?_, ?_⟩
  · rw [cell_of ((b.block _ (by simp)).trans h1)]; rfl
  · have e : (w.alloc (.cells #[x] 25)).heap.size = w.heap.size + 1 := by simp
    rw [e] at h2
    rw [cell_of h2]; rfl

theorem BelL.self {N : List Nd} {id : Nat} {H : List Nat} (h : BelL N id H) : id ∈ H := (h.2 id).2 (Rch.refl _ _)

theorem value_yes {k : K} {w : World} {N : List Nd} {P : Nat → Prop} {a : Option Addr} {len cap : Nat} {E : List Int} (s : Dg k w N P) (wl : Wl N) (hL : N.length ≤ 150) (hE : Us w a len E) (id : Nat) (hi : id < N.length) {x : Int} (hx : vF N E id = x) :
    Calls Try.prog 8 #[.pointer (some ⟨k.DB, 0, none⟩), .int .i64 id, .slice a len cap] w fun e w' => e = .returned (.tuple #[.int .u64 x, .int .i64 0]) ∧ Hid (Below w.heap.size w w') := by
  have B := hid (show Below w.heap.size w ((w.alloc (.cells #[.pointer (some ⟨k.DB, 0, none⟩)] 25)).alloc (.cells #[.slice a len cap] 23)) by go_grown)
  have HS := hid (s.below B.out)
  have HE := hid (hE.below B.out)
  have HB := hid (boxes_two w (.pointer (some ⟨k.DB, 0, none⟩)) (.slice a len cap))
  have HW := hid wl
  have HL := hid hL
  have HI := hid hi
  have HX := hid hx
  have HLI : Hid (id ≤ 1000000) := hid (by omega)
  clear s hE wl hL hi hx
  go_enter Try.func8, Try.ntmps8
  go_wp2_with (go_at_call 27; with_reducible (refine (reckon_u HS.out HW.out HL.out HE.out HB.out.1 HB.out.2 id HI.out).mono ?_); rintro e w2 ⟨mb, H, rfl, h2, l2, b2⟩; have hlk := uFind h2.out l2.out.self HLI.out HX.out)
  go_ret2
  exact ⟨rfl, hid (Below.next B.out b2.out)⟩

theorem value_no {k : K} {w : World} {N : List Nd} {P : Nat → Prop} {a : Option Addr} {len cap : Nat} (s : Dg k w N P) (id : Int) (hi : isN N id = false) (h0 : -9223372036854775808 ≤ id) (h1 : id ≤ 9223372036854775807) :
    Calls Try.prog 8 #[.pointer (some ⟨k.DB, 0, none⟩), .int .i64 id, .slice a len cap] w fun e w' => e = .returned (.tuple #[.int .u64 0, .int .i64 11]) ∧ Hid (Below w.heap.size w w') := by
  have B := hid (show Below w.heap.size w ((w.alloc (.cells #[.pointer (some ⟨k.DB, 0, none⟩)] 25)).alloc (.cells #[.slice a len cap] 23)) by go_grown)
  have HS := hid (s.below B.out)
  have HI := hid hi
  have H0 := hid h0
  have H1 := hid h1
  clear s hi h0 h1
  go_enter Try.func8, Try.ntmps8
  go_wp2_with (go_at_call 27; with_reducible (refine (reckon_u0 HS.out id HI.out _ (fun _ => 0)).mono ?_); rintro e w2 ⟨mb, rfl, h2, b2⟩; have hlk := uNone h2.out id H0.out H1.out)
  go_ret2
  exact ⟨rfl, hid (Below.next B.out b2.out)⟩

theorem nLen {w : World} {mb : Nat} {H : List Nat} {val : Nat → Nd} (h : HeldIs nR w mb H val) (ty : TypeId) {z : Int} (hz : (H.length : Int) = z) : (Builtin.len_ #[68] ty #[.map (some mb)]).run Try.prog w = .ok (.int .i64 z) w := by
  subst hz; exact h.len ty

theorem size_yes {k : K} {w : World} {N : List Nd} {P : Nat → Prop} (s : Dg k w N P) (wl : Wl N) (hL : N.length ≤ 150) (id : Nat) (hi : id < N.length) {B : List Nat} (hB : BelL N id B) {z : Int} (hz : (B.length : Int) = z) :
    Calls Try.prog 12 #[.pointer (some ⟨k.DB, 0, none⟩), .int .i64 id] w fun e w' => e = .returned (.int .i64 z) ∧ Hid (Below w.heap.size w w') := by
  have HS := hid s
  have HW := hid wl
  have HL := hid hL
  have HI := hid hi
  have HB : Hid (∀ H, BelL N id H → (H.length : Int) = z) := hid fun H h => by rw [h.len hB]; exact hz
  clear s wl hL hi hB hz
  go_enter Try.func12, Try.ntmps12
  go_wp2_with (go_at_call 30; with_reducible (refine (reckon_n HS.out HW.out HL.out id HI.out).mono ?_); rintro e w2 ⟨mb, H, rfl, h2, l2, b2⟩; have hlen := fun ty => nLen h2.out ty (HB.out H l2.out))
  go_ret
  exact ⟨rfl, hid b2.out⟩

theorem size_no {k : K} {w : World} {N : List Nd} {P : Nat → Prop} (s : Dg k w N P) (id : Int) (hi : isN N id = false) :
    Calls Try.prog 12 #[.pointer (some ⟨k.DB, 0, none⟩), .int .i64 id] w fun e w' => e = .returned (.int .i64 0) ∧ Hid (Below w.heap.size w w') := by
  have HS := hid s
  have HI := hid hi
  clear s hi
  go_enter Try.func12, Try.ntmps12
  go_wp2_with (go_at_call 30; with_reducible (refine (reckon_n0 HS.out id HI.out _ (fun _ => z6)).mono ?_); rintro e w2 ⟨mb, rfl, h2, b2⟩; have hlen := fun ty => nLen h2.out ty rfl)
  go_ret
  exact ⟨rfl, hid b2.out⟩

end Go.Proofs.Ytbekgejbgmdbdaa
