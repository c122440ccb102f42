/-
  The document's left: the literal of a clause that must hold.
-/
import Derived.Test.YtifecnnkkbpglaaRv
import Derived.Test.YtifecnnkkbpglaaGb
namespace Go.Proofs.Ytifecnnkkbpglaa
open Go.RowKit
set_option linter.unusedVariables false

/-- What left tells: nothing more, or a literal that must hold. -/
def LEnd (n : Nat) (K : Nat → Bool) (val : Nat → Bool) (xs : List Int) (z : Int) : Prop := (z = -1 ∧ Done K val xs) ∨ (rng n z ∧ K (z / 2).toNat = false ∧ hd val z = true)

/-- What is known of the first k. -/
def LA (K : Nat → Bool) (val : Nat → Bool) (xs : List Int) (k : Nat) (at_ : Int) : Prop :=
  (at_ = -1 ∧ ∀ x ∈ xs.take k, K (x / 2).toNat = true ∧ hd val x = false) ∨
  ∃ (j : Nat) (z : Int), j < k ∧ at_ = (j : Int) ∧ xs[j]? = some z ∧ K (z / 2).toNat = false ∧ ∀ x ∈ xs.take k, (K (x / 2).toNat = true ∧ hd val x = false) ∨ x = z

theorem take_mem {xs : List Int} {k : Nat} {y x : Int} (hy : xs[k]? = some y) (hx : x ∈ xs.take (k + 1)) : x ∈ xs.take k ∨ x = y := by
  rw [List.take_add_one, hy] at hx
  simpa using hx

theorem LA.skip {K : Nat → Bool} {val : Nat → Bool} {xs : List Int} {k : Nat} {at_ : Int} (h : LA K val xs k at_) {y : Int} (hy : xs[k]? = some y) (h1 : K (y / 2).toNat = true) (h2 : hd val y = false) : LA K val xs (k + 1) at_ := by
  rcases h with ⟨e, h⟩ | ⟨j, z, hj, e, hz, hk, h⟩
  · refine .inl ⟨e, fun x hx => ?_⟩
    rcases take_mem hy hx with hx | rfl
    · exact h x hx
    · exact ⟨h1, h2⟩
  · refine .inr ⟨j, z, by omega, e, hz, hk, fun x hx => ?_⟩
    rcases take_mem hy hx with hx | rfl
    · exact h x hx
    · exact .inl ⟨h1, h2⟩

theorem LA.first {K : Nat → Bool} {val : Nat → Bool} {xs : List Int} {k : Nat} (h : LA K val xs k (-1)) {y : Int} (hy : xs[k]? = some y) (h1 : K (y / 2).toNat = false) : LA K val xs (k + 1) (k : Int) := by
  rcases h with ⟨_, h⟩ | ⟨j, z, hj, e, _⟩
  · refine .inr ⟨k, y, by omega, rfl, hy, h1, fun x hx => ?_⟩
    rcases take_mem hy hx with hx | rfl
    · exact .inl (h x hx)
    · exact .inr rfl
  · omega

theorem LA.again {K : Nat → Bool} {val : Nat → Bool} {xs : List Int} {k j : Nat} (h : LA K val xs k (j : Int)) {y : Int} (hy : xs[k]? = some y) (hj2 : xs[j]? = some y) : LA K val xs (k + 1) (k : Int) := by
  rcases h with ⟨e, _⟩ | ⟨j2, z, hj, e, hz, hk, h⟩
  · omega
  · have : j2 = j := by omega
    subst this
    rw [hj2] at hz
    cases hz
    refine .inr ⟨k, y, by omega, rfl, hy, hk, fun x hx => ?_⟩
    rcases take_mem hy hx with hx | rfl
    · exact h x hx
    · exact .inr rfl

theorem LA.two {K : Nat → Bool} {val : Nat → Bool} {xs : List Int} {k j : Nat} (h : LA K val xs k (j : Int)) {y z : Int} (hy : xs[k]? = some y) (h1 : K (y / 2).toNat = false) (hz : xs[j]? = some z) (hne : z ≠ y) : Done K val xs := by
  rcases h with ⟨e, _⟩ | ⟨j2, z2, hj, e, hz2, hk, h⟩
  · omega
  · have : j2 = j := by omega
    subst this
    rw [hz] at hz2
    cases hz2
    exact .inr ⟨z, List.mem_of_getElem? hz, y, List.mem_of_getElem? hy, hne, hk, h1⟩

theorem LA.end {n : Nat} {K : Nat → Bool} {val : Nat → Bool} {xs : List Int} {at_ : Int} {m : Nat} (h : LA K val xs m at_) (hm : xs.length ≤ m) (hx : ∀ x ∈ xs, rng n x) (hs : ∃ x ∈ xs, hd val x = true) : ∃ (j : Nat) (z : Int), at_ = (j : Int) ∧ xs[j]? = some z ∧ j < xs.length ∧ LEnd n K val xs z := by
  obtain ⟨x, hx1, hx2⟩ := hs
  rcases h with ⟨e, h⟩ | ⟨j, z, hj, e, hz, hk, h⟩
  · rw [List.take_of_length_le hm] at h
    rw [(h x hx1).2] at hx2; cases hx2
  · rw [List.take_of_length_le hm] at h
    refine ⟨j, z, e, hz, (List.getElem?_eq_some_iff.1 hz).1, .inr ⟨hx z (List.mem_of_getElem? hz), hk, ?_⟩⟩
    rcases h x hx1 with ⟨_, h2⟩ | rfl
    · rw [h2] at hx2; cases hx2
    · exact hx2

theorem is_hd {n : Nat} {K I val : Nat → Bool} {x : Int} (hx : rng n x) (hJ : ∀ v, v < n → K v = true → I v = val v) (hk : K (x / 2).toNat = true) : isF n K I x = hd val x := by
  have e : negF x = (x % 2 == 1) := by
    rw [Bool.eq_iff_iff]; unfold rng at hx; simp [negF]; omega
  rw [isF, knF, okF_rng.2 hx, hk, e, hJ _ (by unfold rng at hx; omega) hk]; rfl

theorem Row.two {w : World} {ao : Option Addr} {n cap : Nat} {xs : List Int} (h : Row w ao n cap xs) {j k : Nat} (hj : j < n) (hk : k < n) {y z : Int} (hy : xs[k]? = some y) (hz : xs[j]? = some z) :
    ∃ b off, ao = some ⟨b, off, none⟩ ∧ w.cell? ⟨b, off + k, none⟩ = some (.int .i64 y) ∧ w.cell? ⟨b, off + j, none⟩ = some (.int .i64 z) := by
  obtain ⟨b, off, e, hc⟩ := h.2.2.2.2.2 (by omega)
  have q1 := hc k hk
  have q2 := hc j hj
  simp only [List.getD_eq_getElem?_getD, hy, hz, Option.getD_some] at q1 q2
  exact ⟨b, off, e, q1, q2⟩

set_option maxHeartbeats 8000000 in
theorem left_any (w : World) (kb ib n : Nat) (K I val : Nat → Bool) (hv : Vs w kb ib n K I) (hn : n ≤ 10000) (ao : Option Addr) (m cap : Nat) (xs : List Int) (hr : Row w ao m cap xs) (hx : ∀ x ∈ xs, rng n x)
    (hJ : ∀ v, v < n → K v = true → I v = val v) (hs : ∃ x ∈ xs, hd val x = true) :
    Calls Try.prog 48 #[.agg #[.slice (some ⟨kb, 0, none⟩) n n, .slice (some ⟨ib, 0, none⟩) n n], .slice ao m cap] w fun e w' => ∃ z, e = .returned (.tuple #[.int .i64 z, .bool true]) ∧ Hid (LEnd n K val xs z) ∧ Hid (Below w.heap.size w w') := by
  have b1 : Below w.heap.size w (w.alloc (.cells #[.slice (some ⟨kb, 0, none⟩) n n, .slice (some ⟨ib, 0, none⟩) n n] 37)) := (Below.refl _ _).alloc (Nat.le_refl _) _
  have HBX : Hid ((w.alloc (.cells #[.slice (some ⟨kb, 0, none⟩) n n, .slice (some ⟨ib, 0, none⟩) n n] 37)).heap[w.heap.size]? = some (.cells #[.slice (some ⟨kb, 0, none⟩) n n, .slice (some ⟨ib, 0, none⟩) n n] 37 (0, 0))) := hid (new_same _ _)
  have HB := hid b1
  have HV := hid hv
  have HR := hid hr
  have HX := hid hx
  have HJ := hid hJ
  have HS := hid hs
  have hm := hr.max
  clear b1 hv hr hx hJ hs
  go_enter Try.func48, Try.ntmps48
  go_wp2
  go_loopw [6, 7, 8, 9] (fun a i _ _ wr => ∃ k : Nat, k ≤ m ∧ i = .int .i64 k ∧ ∃ t : Int, a = .int .i64 t ∧ Hid (LA K val xs k t) ∧ Hid (Below w.heap.size w wr) ∧ Hid (wr.heap[w.heap.size]? = some (.cells #[.slice (some ⟨kb, 0, none⟩) n n, .slice (some ⟨ib, 0, none⟩) n n] 37 (0, 0)))) (fun _ i _ _ _ => m - (intOf i).toNat)
  case atStart => exact ⟨0, Nat.zero_le _, rfl, -1, rfl, hid (.inl ⟨rfl, fun x hx => by simp at hx⟩), HB, HBX⟩
  case round =>
    obtain ⟨k, hk, rfl, t, rfl, hla, hb, hbx⟩ := hrel
    clear HB HBX
    by_cases hlt : k < m
    · have hlt' : (k : Int) < m := by omega
      have d0 : wr.cell? ⟨w.heap.size, 0, none⟩ = some (.slice (some ⟨kb, 0, none⟩) n n) := by rw [cell_of hbx.out]; rfl
      have d1 : wr.cell? ⟨w.heap.size, 1, none⟩ = some (.slice (some ⟨ib, 0, none⟩) n n) := by rw [cell_of hbx.out]; rfl
      obtain ⟨y, hy⟩ : ∃ y, xs[k]? = some y := ⟨xs[k]'(by rw [HR.out.1]; exact hlt), by simp⟩
      have hry := HX.out y (List.mem_of_getElem? hy)
      have y1 := (rng_fit hry hn).2
      have HY := hid hy
      have ho : okF n y = true := okF_rng.2 hry
      have k0 : (0 : Int) ≤ k := by omega
      have BK : Hid (∀ {W}, Below wr.heap.size wr W → W.heap[w.heap.size]? = some (.cells #[.slice (some ⟨kb, 0, none⟩) n n, .slice (some ⟨ib, 0, none⟩) n n] 37 (0, 0))) := hid (fun b => (b.block _ (blk_lt hbx.out)).trans hbx.out)
      cases hK : K (y / 2).toNat
      · have hkn : knF n K y = false := by simp [knF, hK]
        have his : isF n K I y = false := by simp [isF, hkn]
        have HK := hid hK
        rcases hla.out with ⟨rfl, _⟩ | ⟨j, z, hj, rfl, hz0, _⟩
        · obtain ⟨b, off, rfl, hc, _⟩ := (HR.out.keep hb.out).two hlt hlt hy hy
          clear hK hy hry hbx
          haveI : Inhabited (BW wr) := ⟨⟨wr, Below.refl _ _⟩⟩
          have X0 := BW.cell d0
          have X1 := BW.cell d1
          have Xc := BW.cell hc
          go_wp2
          refine wp_region_below (by kernel_rfl) (by kernel_rfl) ?_
          repeat (go_big_quiet_step (first | (go_at_call 45; exact bw_of (fits_any _ kb ib n hn y y1)) | fail))
          refine wpQuiet_nil ?_
          intro _ hw
          obtain ⟨p, hw2⟩ := hw
          subst hw2
          haveI : Inhabited (BW p.w) := ⟨⟨p.w, Below.refl _ _⟩⟩
          have Y0 := BW.cell (X0 p)
          have Y1 := BW.cell (X1 p)
          have Yc := BW.cell (Xc p)
          have HV2 := HV.out.keep (Below.next hb.out p.be)
          clear X0 X1 Xc
          go_wp2
          refine wp_region_below (by kernel_rfl) (by kernel_rfl) ?_
          repeat (go_big_quiet_step (first | (go_at_call 46; exact bw_of (holds_any _ kb ib n K I (HV2.keep (BW.be _)) hn y y1)) | fail))
          refine wpQuiet_nil ?_
          intro _ hw
          obtain ⟨p2, hw2⟩ := hw
          subst hw2
          haveI : Inhabited (BW p2.w) := ⟨⟨p2.w, Below.refl _ _⟩⟩
          have Zc := BW.cell (Yc p2)
          clear Y0 Y1 Yc
          go_wp2
          refine wp_region_below (by kernel_rfl) (by kernel_rfl) ?_
          repeat (go_big_quiet_step (fail))
          refine wpQuiet_nil ?_
          intro _ hw
          obtain ⟨p3, hw2⟩ := hw
          subst hw2
          have bb := hid (Below.next (Below.next (Below.next hb.out p.be) p2.be) p3.be)
          go_wp2
          go_roundw
          case rel => exact ⟨k + 1, by omega, by go_num, (k : Int), rfl, hid (hla.out.first HY.out HK.out), bb, hid (BK.out (Below.next (Below.next p.be p2.be) p3.be))⟩
          case measure => simp only [intOf]; omega
        · obtain ⟨b, off, rfl, hc, hz⟩ := (HR.out.keep hb.out).two (show j < m by omega) hlt hy hz0
          have hjm : (j : Int) < m := by omega
          have j0 : (0 : Int) ≤ j := by omega
          have HZ := hid hz0
          by_cases hzy : z = y
          · have HZY := hid (show xs[j]? = some y by rw [← hzy]; exact hz0)
            have hne : (z != y) = false := by simpa using hzy
            clear hK hy hry hbx hz0 hzy
            haveI : Inhabited (BW wr) := ⟨⟨wr, Below.refl _ _⟩⟩
            have X0 := BW.cell d0
            have X1 := BW.cell d1
            have Xc := BW.cell hc
            have Xz := BW.cell hz
            go_wp2
            refine wp_region_below (by kernel_rfl) (by kernel_rfl) ?_
            repeat (go_big_quiet_step (first | (go_at_call 45; exact bw_of (fits_any _ kb ib n hn y y1)) | fail))
            refine wpQuiet_nil ?_
            intro _ hw
            obtain ⟨p, hw2⟩ := hw
            subst hw2
            haveI : Inhabited (BW p.w) := ⟨⟨p.w, Below.refl _ _⟩⟩
            have Y0 := BW.cell (X0 p)
            have Y1 := BW.cell (X1 p)
            have Yc := BW.cell (Xc p)
            have Yz := BW.cell (Xz p)
            have HV2 := HV.out.keep (Below.next hb.out p.be)
            clear X0 X1 Xc
            go_wp2
            refine wp_region_below (by kernel_rfl) (by kernel_rfl) ?_
            repeat (go_big_quiet_step (first | (go_at_call 46; exact bw_of (holds_any _ kb ib n K I (HV2.keep (BW.be _)) hn y y1)) | fail))
            refine wpQuiet_nil ?_
            intro _ hw
            obtain ⟨p2, hw2⟩ := hw
            subst hw2
            haveI : Inhabited (BW p2.w) := ⟨⟨p2.w, Below.refl _ _⟩⟩
            have Zc := BW.cell (Yc p2)
            have Zz := BW.cell (Yz p2)
            clear Y0 Y1 Yc
            go_wp2
            refine wp_region_below (by kernel_rfl) (by kernel_rfl) ?_
            repeat (go_big_quiet_step (fail))
            refine wpQuiet_nil ?_
            intro _ hw
            obtain ⟨p3, hw2⟩ := hw
            subst hw2
            have bb := hid (Below.next (Below.next (Below.next hb.out p.be) p2.be) p3.be)
            go_wp2
            go_roundw
            case rel => exact ⟨k + 1, by omega, by go_num, (k : Int), rfl, hid (hla.out.again HY.out HZY.out), bb, hid (BK.out (Below.next (Below.next p.be p2.be) p3.be))⟩
            case measure => simp only [intOf]; omega
          · have HD : Hid (Done K val xs) := hid (hla.out.two HY.out HK.out hz0 hzy)
            have hne : (z != y) = true := by simpa using hzy
            clear hK hy hry hbx hz0 hzy
            haveI : Inhabited (BW wr) := ⟨⟨wr, Below.refl _ _⟩⟩
            have X0 := BW.cell d0
            have X1 := BW.cell d1
            have Xc := BW.cell hc
            have Xz := BW.cell hz
            go_wp2
            refine wp_region_below (by kernel_rfl) (by kernel_rfl) ?_
            repeat (go_big_quiet_step (first | (go_at_call 45; exact bw_of (fits_any _ kb ib n hn y y1)) | fail))
            refine wpQuiet_nil ?_
            intro _ hw
            obtain ⟨p, hw2⟩ := hw
            subst hw2
            haveI : Inhabited (BW p.w) := ⟨⟨p.w, Below.refl _ _⟩⟩
            have Y0 := BW.cell (X0 p)
            have Y1 := BW.cell (X1 p)
            have Yc := BW.cell (Xc p)
            have Yz := BW.cell (Xz p)
            have HV2 := HV.out.keep (Below.next hb.out p.be)
            clear X0 X1 Xc
            go_wp2
            refine wp_region_below (by kernel_rfl) (by kernel_rfl) ?_
            repeat (go_big_quiet_step (first | (go_at_call 46; exact bw_of (holds_any _ kb ib n K I (HV2.keep (BW.be _)) hn y y1)) | fail))
            refine wpQuiet_nil ?_
            intro _ hw
            obtain ⟨p2, hw2⟩ := hw
            subst hw2
            haveI : Inhabited (BW p2.w) := ⟨⟨p2.w, Below.refl _ _⟩⟩
            have Zc := BW.cell (Yc p2)
            have Zz := BW.cell (Yz p2)
            clear Y0 Y1 Yc
            go_wp2
            refine wp_region_below (by kernel_rfl) (by kernel_rfl) ?_
            repeat (go_big_quiet_step (fail))
            refine wpQuiet_nil ?_
            intro _ hw
            obtain ⟨p3, hw2⟩ := hw
            subst hw2
            have bb := hid (Below.next (Below.next (Below.next hb.out p.be) p2.be) p3.be)
            go_wp2
            go_ret2
            exact ⟨-1, rfl, hid (.inl ⟨rfl, HD.out⟩), bb⟩
      · have hkn : knF n K y = true := by simp [knF, hK, ho]
        have HIS := hid (is_hd hry HJ.out hK)
        have HK := hid hK
        obtain ⟨b, off, rfl, hc, _⟩ := (HR.out.keep hb.out).two hlt hlt hy hy
        cases hh : hd val y
        · have his : isF n K I y = false := by rw [HIS.out, hh]
          have HH := hid hh
          clear hK hy hry hbx hh
          haveI : Inhabited (BW wr) := ⟨⟨wr, Below.refl _ _⟩⟩
          have X0 := BW.cell d0
          have X1 := BW.cell d1
          have Xc := BW.cell hc
          go_wp2
          refine wp_region_below (by kernel_rfl) (by kernel_rfl) ?_
          repeat (go_big_quiet_step (first | (go_at_call 45; exact bw_of (fits_any _ kb ib n hn y y1)) | fail))
          refine wpQuiet_nil ?_
          intro _ hw
          obtain ⟨p, hw2⟩ := hw
          subst hw2
          haveI : Inhabited (BW p.w) := ⟨⟨p.w, Below.refl _ _⟩⟩
          have Y0 := BW.cell (X0 p)
          have Y1 := BW.cell (X1 p)
          have Yc := BW.cell (Xc p)
          have HV2 := HV.out.keep (Below.next hb.out p.be)
          clear X0 X1 Xc
          go_wp2
          refine wp_region_below (by kernel_rfl) (by kernel_rfl) ?_
          repeat (go_big_quiet_step (first | (go_at_call 46; exact bw_of (holds_any _ kb ib n K I (HV2.keep (BW.be _)) hn y y1)) | fail))
          refine wpQuiet_nil ?_
          intro _ hw
          obtain ⟨p2, hw2⟩ := hw
          subst hw2
          haveI : Inhabited (BW p2.w) := ⟨⟨p2.w, Below.refl _ _⟩⟩
          have Zc := BW.cell (Yc p2)
          clear Y0 Y1 Yc
          go_wp2
          refine wp_region_below (by kernel_rfl) (by kernel_rfl) ?_
          repeat (go_big_quiet_step (fail))
          refine wpQuiet_nil ?_
          intro _ hw
          obtain ⟨p3, hw2⟩ := hw
          subst hw2
          have bb := hid (Below.next (Below.next (Below.next hb.out p.be) p2.be) p3.be)
          go_wp2
          go_roundw
          case rel => exact ⟨k + 1, by omega, by go_num, t, rfl, hid (hla.out.skip HY.out HK.out HH.out), bb, hid (BK.out (Below.next (Below.next p.be p2.be) p3.be))⟩
          case measure => simp only [intOf]; omega
        · have his : isF n K I y = true := by rw [HIS.out, hh]
          have HD : Hid (Done K val xs) := hid (.inl ⟨y, List.mem_of_getElem? hy, hK, hh⟩)
          clear hK hy hry hbx hh
          haveI : Inhabited (BW wr) := ⟨⟨wr, Below.refl _ _⟩⟩
          have X0 := BW.cell d0
          have X1 := BW.cell d1
          have Xc := BW.cell hc
          go_wp2
          refine wp_region_below (by kernel_rfl) (by kernel_rfl) ?_
          repeat (go_big_quiet_step (first | (go_at_call 45; exact bw_of (fits_any _ kb ib n hn y y1)) | fail))
          refine wpQuiet_nil ?_
          intro _ hw
          obtain ⟨p, hw2⟩ := hw
          subst hw2
          haveI : Inhabited (BW p.w) := ⟨⟨p.w, Below.refl _ _⟩⟩
          have Y0 := BW.cell (X0 p)
          have Y1 := BW.cell (X1 p)
          have Yc := BW.cell (Xc p)
          have HV2 := HV.out.keep (Below.next hb.out p.be)
          clear X0 X1 Xc
          go_wp2
          refine wp_region_below (by kernel_rfl) (by kernel_rfl) ?_
          repeat (go_big_quiet_step (first | (go_at_call 46; exact bw_of (holds_any _ kb ib n K I (HV2.keep (BW.be _)) hn y y1)) | fail))
          refine wpQuiet_nil ?_
          intro _ hw
          obtain ⟨p2, hw2⟩ := hw
          subst hw2
          haveI : Inhabited (BW p2.w) := ⟨⟨p2.w, Below.refl _ _⟩⟩
          have Zc := BW.cell (Yc p2)
          clear Y0 Y1 Yc
          go_wp2
          refine wp_region_below (by kernel_rfl) (by kernel_rfl) ?_
          repeat (go_big_quiet_step (fail))
          refine wpQuiet_nil ?_
          intro _ hw
          obtain ⟨p3, hw2⟩ := hw
          subst hw2
          have bb := hid (Below.next (Below.next (Below.next hb.out p.be) p2.be) p3.be)
          go_wp2
          go_ret2
          exact ⟨-1, rfl, hid (.inl ⟨rfl, HD.out⟩), bb⟩
    · obtain ⟨j, z, rfl, hz, hj, hend⟩ := hla.out.end (by rw [HR.out.1]; omega) HX.out HS.out
      have HE := hid hend
      have hjm : j < m := by rw [← HR.out.1]; exact hj
      obtain ⟨b, off, rfl, hc, _⟩ := (HR.out.keep hb.out).two hjm hjm hz hz
      have hjm' : (j : Int) < m := by omega
      have j0 : (0 : Int) ≤ j := by omega
      have jn : ¬ (j : Int) < 0 := by omega
      clear hz hj hend
      go_wp2
      go_ret2
      exact ⟨z, rfl, HE, hb⟩

end Go.Proofs.Ytifecnnkkbpglaa
