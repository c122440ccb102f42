/-
  Check: the first clause of a proof that does not follow; of the program and of the document.
-/
import Derived.Test.YtdkkdfgaponlbaaStep
import Derived.Test.YtdkkdfgaponlbaaLook
namespace Go.Proofs.Ytdkkdfgaponlbaa
open Go.RowKit
set_option linter.unusedVariables false

theorem take_cat {L P : List (List Int)} {n k : Nat} (h : L.length = n) : (L ++ P).take (n + k) = L ++ P.take k := by
  subst h
  rw [List.take_append, List.take_of_length_le (by omega)]
  simp

theorem short_cat {L P : List (List Int)} (hl : ∀ c ∈ L, c.length ≤ 100) (hp : ∀ c ∈ P, c.length ≤ 100) (k : Nat) : ∀ c ∈ L ++ P.take k, c.length ≤ 100 := by
  intro c hc
  rcases List.mem_append.1 hc with hc | hc
  · exact hl c hc
  · exact hp c (List.mem_of_mem_take hc)

theorem ok_at {L P : List (List Int)} {k : Nat} {ys : List Int} (h : P[k]? = some ys) : Ok L P k ↔ Stp (L ++ P.take k) ys := by
  have e : P.getD k [] = ys := by simp [h]
  simp only [Ok]; rw [e]

theorem row_short {w : World} {a : Option Addr} {m c : Nat} {P : List (List Int)} {k : Nat} {ys : List Int} (hp : ∀ c ∈ P, c.length ≤ 100) (h : P[k]? = some ys) (r : Row w a m c ys) : m ≤ 1000 := by
  have := hp ys (List.mem_of_getElem? h)
  have := r.1
  omega

set_option maxHeartbeats 1000000 in
theorem check_any (w : World) (la : Option Addr) (n cap : Nat) (L : List (List Int)) (gl : Grid w la n cap L) (pa : Option Addr) (m pcap : Nat) (P : List (List Int)) (gp : Grid w pa m pcap P) (hn : n ≤ 50) (hm : m ≤ 50) (hl : ∀ c ∈ L, c.length ≤ 100) (hp : ∀ c ∈ P, c.length ≤ 100) :
    Calls Try.prog 9 #[.slice la n cap, .slice pa m pcap] w fun e w' => ∃ r : Int, e = .returned (.int .i64 r) ∧ Hid (IsFst L P r) ∧ Hid (Below w.heap.size w w') := by
  have HGL := hid gl
  have HGP := hid gp
  have HL := hid hl
  have HP := hid hp
  have hn2 : n ≤ 100 := by omega
  have hm2 : m ≤ 100 := by omega
  clear gl gp hl hp
  go_enter Try.func9, Try.ntmps9
  go_wp2_with (go_at_call 19; with_reducible (refine (concat_two w la n cap L HGL.out pa m pcap P HGP.out hn2 hm2).mono ?_); rintro e w1 ⟨ao, kk, c, rfl, rfl, hA, hb1⟩)
  go_loopw [6, 7, 14] (fun _ _ i wr => ∃ k : Nat, k ≤ m ∧ i = .int .i64 k ∧ Hid (∀ j, j < k → Ok L P j) ∧ Hid (Below w1.heap.size w1 wr)) (fun _ _ i _ => m - (intOf i).toNat)
  case atStart => exact ⟨0, Nat.zero_le _, rfl, hid (fun j hj => absurd hj (Nat.not_lt_zero _)), Below.refl _ _⟩
  case round =>
    obtain ⟨k, hk, rfl, hok, hb⟩ := hrel
    by_cases hlt : k < m
    · obtain ⟨b, off, a, mm, cc, ys, rfl, hc, hy, hrow⟩ := (HGP.out.keep (Below.next hb1.out hb.out)).at hlt
      obtain ⟨b2, off2, rfl, _⟩ := hA.out.2.2.2.2 (by omega)
      have HA2 : Hid (Grid wr (some ⟨b2, off2, none⟩) (n + k) c (L ++ P.take k)) := hid (by
        have := (hA.out.keep hb.out).take (j := n + k) (by omega)
        rw [take_cat HGL.out.1] at this; exact this)
      have hcap : n + m ≤ c := hA.out.2.1
      have hmax : c ≤ 9223372036854775807 := by have := hA.out.2.2.1; unfold maxLen at this; omega
      have hms := row_short HP.out hy.out hrow.out
      have HSH := hid (short_cat HL.out HP.out k)
      have hnk : n + k ≤ 100 := by omega
      have HO := hid (ok_at (L := L) hy.out)
      go_wp2_with (go_at_call 16; with_reducible (refine (step_any _ a mm cc ys hrow.out _ (n + k) c (L ++ P.take k) HA2.out hms hnk HSH.out).mono ?_); rintro e w2 ⟨t, rfl, hiff, hb2⟩; cases t)
      · go_ret
        refine ⟨_, rfl, hid (fst_hit (by rw [HGP.out.1]; exact hlt) hok.out (fun h => ?_)), Below.next (Below.next hb1.out hb.out) hb2.out⟩
        have := hiff.out.2 (HO.out.1 h); cases this
      · have HK := hid (ok_step hok.out (HO.out.2 (hiff.out.1 (by simp))))
        go_roundw
        case rel => exact ⟨k + 1, by omega, by go_num, HK, hid (Below.next hb.out hb2.out)⟩
        case measure => simp only [intOf]; omega
    · go_wp2
      go_ret
      exact ⟨_, rfl, hid (fst_end (i := k) (by rw [HGP.out.1]; omega) hok.out), Below.next hb1.out hb.out⟩

set_option maxHeartbeats 1000000 in
theorem rcheck_any (w : World) (la : Option Addr) (n cap : Nat) (L : List (List Int)) (gl : Grid w la n cap L) (pa : Option Addr) (m pcap : Nat) (P : List (List Int)) (gp : Grid w pa m pcap P) (hn : n ≤ 50) (hm : m ≤ 50) (hl : ∀ c ∈ L, c.length ≤ 100) (hp : ∀ c ∈ P, c.length ≤ 100) :
    Calls Try.prog 10 #[.slice la n cap, .slice pa m pcap] w fun e w' => ∃ r : Int, e = .returned (.int .i64 r) ∧ Hid (IsFst L P r) ∧ Hid (Below w.heap.size w w') := by
  have HGL := hid gl
  have HGP := hid gp
  have HL := hid hl
  have HP := hid hp
  have hn2 : n ≤ 1000 := by omega
  have HB0 := Below.refl w.heap.size w
  clear gl gp hl hp
  go_enter Try.func10, Try.ntmps10
  go_wp2_with (at_builtin; refine cat_grid (w0 := w) rfl (.tmp 7) (.tmp 8) rfl _ [] L rfl (OwnG.nil _ _) HB0 _ _ _ rfl HGL.out (by simp) hn2 ?_; intro v1 w1 hown1 hb1)
  go_loopw [5, 6] (fun v i wr => ∃ k : Nat, k ≤ m ∧ i = .int .i64 k ∧ Hid (OwnG w wr v (L ++ P.take k)) ∧ Hid (∀ j, j < k → Ok L P j) ∧ Hid (Below w.heap.size w wr)) (fun _ i _ => m - (intOf i).toNat)
  case atStart => exact ⟨0, Nat.zero_le _, rfl, hid (by have := hown1.out; simpa using this), hid (fun j hj => absurd hj (Nat.not_lt_zero _)), hb1⟩
  case round =>
    clear hown1 hb1
    obtain ⟨k, hk, rfl, hown, hok, hb⟩ := hrel
    by_cases hlt : k < m
    · obtain ⟨b, off, a, mm, cc, ys, rfl, hc0, hy, HRW⟩ := HGP.out.at hlt
      have hc := (hb.out.cell (cell_lt hc0)).trans hc0
      have hrow := hid (HRW.out.keep hb.out)
      clear hc0
      obtain ⟨ao, nn, c, rfl, hnn, hG⟩ := hown.out.grid hb.out
      have hll : (L ++ P.take k).length = n + k := by rw [List.length_append, HGL.out.1, List.length_take, HGP.out.1]; omega
      have hnn2 : nn ≤ 100 := by omega
      have hms := row_short HP.out hy.out hrow.out
      have HSH := hid (short_cat HL.out HP.out k)
      have HO := hid (ok_at (L := L) hy.out)
      have HTN : Hid (L ++ P.take (k + 1) = (L ++ P.take k) ++ [ys]) := hid (by rw [List.take_add_one, hy.out]; simp)
      have HLEN : Hid ((L ++ P.take k).length ≤ 1000) := hid (by omega)
      clear hnn hll
      go_wp2_with (first
        | (go_at_call 8; with_reducible (refine (rstep_any _ ao nn c (L ++ P.take k) hG.out a mm cc ys hrow.out hms hnn2 HSH.out).mono ?_); rintro e w2 ⟨t, rfl, hiff, hb2⟩; cases t <;> have hc2 := (hb2.out.cell (cell_lt hc)).trans hc)
        | (at_builtin; refine cat_cell (w0 := w) rfl (.tmp 24) (.tmp 29) rfl _ (L ++ P.take k) ys rfl ((hown.out.keep hb2.out).alloc _) ((Below.next hb.out hb2.out).alloc (Below.next hb.out hb2.out).size _) _ rfl a mm cc (by simp) HRW.out HLEN.out ?_; intro v3 w3 hown3 hb3))
      · go_ret
        refine ⟨_, rfl, hid (fst_hit (by rw [HGP.out.1]; exact hlt) hok.out (fun h => ?_)), Below.next hb.out hb2.out⟩
        have := hiff.out.2 (HO.out.1 h); cases this
      · have HK := hid (ok_step hok.out (HO.out.2 (hiff.out.1 (by simp))))
        go_roundw
        case rel => exact ⟨k + 1, by omega, by go_num, hid (by rw [HTN.out]; exact hown3.out), HK, hb3⟩
        case measure => simp only [intOf]; omega
    · go_wp2
      go_ret
      exact ⟨_, rfl, hid (fst_end (i := k) (by rw [HGP.out.1]; omega) hok.out), hb⟩

end Go.Proofs.Ytdkkdfgaponlbaa
