/-
  Close: all that follows.
-/
import Derived.Test.YtdkkdfgaponlbaaBegin
import Derived.Test.YtdkkdfgaponlbaaShelf
import Derived.Lib.RowBridge
namespace Go.Proofs.Ytdkkdfgaponlbaa
open Go.RowKit Go.Maps Go.Sort
set_option linter.unusedVariables false

/-- k is what begin has laid. -/
def Laid (w : World) (la : Option Addr) (n cap : Nat) (L : List (List Int)) (S : List Int) (k : K) : Prop := k.w0 = w ∧ k.la = la ∧ k.n = n ∧ k.cap = cap ∧ k.Ks = keysOf L S
def Known (L : List (List Int)) (fst : Int → Int) (us : List (Int × Int)) (op : List Int) : Prop := Uses L fst us ∧ OpOk L op ∧ us.length ≤ 100000000

theorem begin_at (w : World) (la : Option Addr) (n cap : Nat) (L : List (List Int)) (gr : Grid w la n cap L) (sa : Option Addr) (sn scap : Nat) (S : List Int) (hr : Row w sa sn scap S) (hn : n ≤ 100) (hs : sn ≤ 10000) (hl : ∀ c ∈ L, c.length ≤ 1000) :
    Calls Try.prog 32 #[.slice la n cap, .slice sa sn scap] w fun e w' => ∃ (k : K) (fst : Int → Int) (us : List (Int × Int)) (op : List Int), e = .returned (.pointer (some ⟨k.C, 0, none⟩)) ∧ Hid (Laid w la n cap L S k) ∧
      Hid (P2 k fst us op [] w') ∧ Hid (Known L fst us op) := by
  refine (begin_any w la n cap L gr sa sn scap S hr hn hs hl).mono fun e w' he => ?_
  obtain ⟨k, h1, h2, h3, h4, h5, h6, fst, us, op, h7, h8⟩ := he
  exact ⟨k, fst, us, op, h1, ⟨h2, h3, h4, h5, h6⟩, h7, h8⟩

/-- What is so behind takeAll. -/
def Got1 (k : K) (fst : Int → Int) (us : List (Int × Int)) (op : List Int) (L : List (List Int)) (S : List Int) (w' : World) : Prop := ∃ H, P2 k fst us op H w' ∧ (∀ y ∈ H, Der L S y) ∧ ∀ y ∈ S, 0 ≤ y → y ∈ H
/-- .. and behind settleAll. -/
def Got2 (k : K) (fst : Int → Int) (us : List (Int × Int)) (op : List Int) (L : List (List Int)) (S : List Int) (w' : World) : Prop := ∃ H, P2 k fst us op H w' ∧ Gd L S op H (fun _ _ => false) ∧ ∀ y ∈ S, 0 ≤ y → y ∈ H
section
variable {w : World} {la : Option Addr} {n cap : Nat} {L : List (List Int)} {S : List Int} {k : K} {fst : Int → Int} {us : List (Int × Int)} {op : List Int} {sa : Option Addr} {sn scap : Nat}

theorem takeAll_b (w1 : World) (lk : Laid w la n cap L S k) (hr : Row w sa sn scap S) (hp : P2 k fst us op [] w1) :
    Calls Try.prog 33 #[.pointer (some ⟨k.C, 0, none⟩), .slice sa sn scap] w1 fun e w' => (e = .returned (.bool false) ∧ Hid (Bad L S ∧ Below w.heap.size w w')) ∨ (e = .returned (.bool true) ∧ Hid (Got1 k fst us op L S w')) := by
  obtain ⟨rfl, _, _, _, hk⟩ := lk
  refine (takeAll_any k fst us op L S w1 hp sa sn scap hr (among_keys hk).2).mono fun e w' he => ?_
  rcases he with ⟨h1, h2, h3⟩ | ⟨h1, h2⟩
  · exact .inl ⟨h1, h2, h3⟩
  · exact .inr ⟨h1, h2⟩

theorem settleAll_b (w1 : World) (lk : Laid w la n cap L S k) (gr : Grid w la n cap L) (kn : Known L fst us op) (g : Got1 k fst us op L S w1) :
    Calls Try.prog 34 #[.pointer (some ⟨k.C, 0, none⟩)] w1 fun e w' => (e = .returned (.bool false) ∧ Hid (Bad L S ∧ Below w.heap.size w w')) ∨ (e = .returned (.bool true) ∧ Hid (Got2 k fst us op L S w')) := by
  obtain ⟨rfl, rfl, rfl, rfl, hk⟩ := lk
  obtain ⟨H, hp, hd, hS⟩ := g
  refine (settleAll_any k fst us op L S H w1 hp hd kn.2.1 gr (among_keys hk).1).mono fun e w' he => ?_
  rcases he with ⟨h1, h2, h3⟩ | ⟨h1, T, h2, h3⟩
  · exact .inl ⟨h1, h2, h3⟩
  · exact .inr ⟨h1, H ++ T, h2, h3, fun y hy y0 => List.mem_append.2 (.inl (hS y hy y0))⟩

theorem spread_b (w1 : World) (lk : Laid w la n cap L S k) (gr : Grid w la n cap L) (kn : Known L fst us op) (g : Got2 k fst us op L S w1) :
    Calls Try.prog 35 #[.pointer (some ⟨k.C, 0, none⟩)] w1 fun e w' => (e = .returned (.bool false) ∧ Hid (Bad L S ∧ Below w.heap.size w w')) ∨
      (∃ (fst' : Int → Int) (us' : List (Int × Int)) (op' H : List Int) (ao : Option Addr) (cp : Nat), e = .returned (.bool true) ∧ w'.cell? ⟨k.C, 5, none⟩ = some (.slice ao H.length cp) ∧ Hid (P2 k fst' us' op' H w') ∧ Hid (Gd L S op' H (stN H H.length)) ∧ Hid (∀ y ∈ S, 0 ≤ y → y ∈ H)) := by
  obtain ⟨rfl, rfl, rfl, rfl, hk⟩ := lk
  obtain ⟨H, hp, hg, hS⟩ := g
  refine (spread_any k fst us L S op H w1 hp hg gr (among_keys hk).1 kn.1 kn.2.2 (fun x hx => by rw [hk] at hx ⊢; exact keys_not hx)).mono fun e w' he => ?_
  rcases he with ⟨h1, h2, h3⟩ | ⟨h1, op', T, h2, h3⟩
  · exact .inl ⟨h1, h2, h3⟩
  · obtain ⟨ao, cp, c5, _⟩ := h2.held
    exact .inr ⟨fst, us, op', H ++ T, ao, cp, h1, c5, h2, h3, hid (fun y hy y0 => List.mem_append.2 (.inl (hS y hy y0)))⟩
end

/-! ### What is held, in order -/
theorem got_res {k : K} {L : List (List Int)} {S H op : List Int} {fst : Int → Int} {us : List (Int × Int)} {w' : World} (hp : P2 k fst us op H w') (hg : Gd L S op H (stN H H.length)) (hS : ∀ y ∈ S, 0 ≤ y → y ∈ H) :
    Res L S (H.mergeSort fun x y => decide (x ≤ y)) true := by
  obtain ⟨F, M, ks, uv, hv, s, _, _, hn, hk⟩ := hp
  have hm : ∀ z, z ∈ (H.mergeSort fun x y => decide (x ≤ y)) ↔ z ∈ H := fun z => (List.mergeSort_perm H _).mem_iff
  have hle : (H.mergeSort fun x y => decide (x ≤ y)).Pairwise (fun a b => decide (a ≤ b) = true) :=
    List.pairwise_mergeSort (fun a b c h1 h2 => by simp at *; omega) (fun a b => by simp; omega) H
  have hnd : (H.mergeSort fun x y => decide (x ≤ y)).Nodup := (List.mergeSort_perm H _).nodup_iff.2 hn
  have hup : (H.mergeSort fun x y => decide (x ≤ y)).Pairwise (· < ·) := by
    have hb := hle.and hnd
    refine hb.imp fun {a b} h => ?_
    have h1 : a ≤ b := by simpa using h.1
    have h2 : a ≠ b := h.2
    omega
  refine res_true hup (fun x hx x0 => (hm x).2 (hS x hx x0)) (fun x hx => hg.der x ((hm x).1 hx)) (fun x hx h => (hk x ((hm x).1 hx)).2 ((hm _).1 h)) fun c hc => ?_
  obtain ⟨i, hi, e⟩ := List.mem_iff_getElem.1 hc
  have hci : L[i]? = some c := by rw [List.getElem?_eq_getElem hi, e]
  by_cases h1 : cntU (stN H H.length i) (dd c) ≤ 1
  · obtain ⟨y, hy, hyH⟩ := hg.set i c hci h1
    exact .inl ⟨y, hy, (hm y).2 hyH⟩
  · obtain ⟨u, hu, v, hv, hne, su, sv⟩ := cnt_two (nodup_dd c) (show 2 ≤ cntU (stN H H.length i) (dd c) by omega)
    have hu2 := (mem_dd c u).1 hu
    have hv2 := (mem_dd c v).1 hv
    simp only [stN, List.take_length, decide_eq_false_iff_not] at su sv
    exact .inr ⟨u, hu2.1, v, hv2.1, hne, hu2.2, hv2.2, fun h => su ((hm _).1 h), fun h => sv ((hm _).1 h)⟩

theorem grown_put {g : Nat} {w : World} (d : Array Int) (n : Nat) : w.grownBy (putRow (Value.int .i64) (Sort.ahead w n) g 0 d) (some g) :=
  ⟨rfl, rfl, rfl, by simp, fun k _ hne => by simp only [putRow, mapBlock, Sort.ahead, Array.getElem?_modify]; rw [if_neg (fun e => hne (by rw [e]))]⟩

/-- The library's sort, of the list of what holds. -/
theorem sort_held {k : K} {fst : Int → Int} {us : List (Int × Int)} {op H : List Int} (w : World) (hp : P2 k fst us op H w) (ao : Option Addr) (cap : Nat) (hc : w.cell? ⟨k.C, 5, none⟩ = some (.slice ao H.length cap)) :
    Calls Try.prog 36 #[.slice ao H.length cap] w fun e w' => e = .returned (.tuple #[]) ∧ w'.cell? ⟨k.C, 5, none⟩ = some (.slice ao H.length cap) ∧ Hid (Row w' ao H.length cap (H.mergeSort fun x y => decide (x ≤ y)) ∧ Below k.w0.heap.size k.w0 w') := by
  have hlen := hp.len
  have hfit : Fit (H.mergeSort fun x y => decide (x ≤ y)) := by
    obtain ⟨F, M, ks, uv, hv, s, _, _, _, hk⟩ := hp
    intro x hx
    have := s.ok.Kn x (hk x ((List.mergeSort_perm H _).mem_iff.1 hx)).1; omega
  have hls : (H.mergeSort fun x y => decide (x ≤ y)).length = H.length := List.length_mergeSort H
  obtain ⟨F, M, ks, uv, hv, s, _, _, hn, hk⟩ := hp
  have e5 := s.c5
  rw [hc] at e5
  obtain rfl := Option.some.inj e5
  by_cases h0 : H.length = 0
  · have eH : H = [] := List.eq_nil_of_length_eq_zero h0
    subst eH
    refine (Try.slices_Sort_int_none ao cap w).mono ?_
    rintro e w' ⟨rfl, rfl⟩
    refine ⟨rfl, hc, ⟨hls, Nat.zero_le _, ?_, ?_, hfit, fun h => by simp at h⟩, s.be⟩
    · rcases s.he.2 with ⟨h1, _⟩ | ⟨g, c, cur, h1, _, _, _, hm, _⟩
      · cases h1; unfold maxLen; omega
      · cases h1; exact hm
    · intro h
      rcases s.he.2 with ⟨h1, _⟩ | ⟨g, c, cur, h1, _⟩
      · cases h1; rfl
      · rw [h] at h1; cases h1
  · rcases s.he.2 with ⟨_, h1⟩ | ⟨g, c, cur, h1, hb, hg, hnc, hm, hcs, htk⟩
    · exact absurd h1 h0
    · cases h1
      have hH : Holds (Value.int .i64) w g 0 H.toArray := by
        intro j hj
        have hj2 : j < H.length := by simpa using hj
        refine ⟨?_, frozen_of hg⟩
        rw [Nat.zero_add, cell_of hg]
        have h2 : (cur.toList.take (H.length * 1))[j]? = (H.map (Value.int .i64))[j]? := by rw [htk]
        rw [List.getElem?_take_of_lt (by omega)] at h2
        simp [hj2] at h2
        simp [getElem!_pos, hj2]
        exact h2
      refine (Try.slices_Sort_int g 0 cap H w hH (blk_lt hg) (by omega)).mono ?_
      rintro e w' ⟨rfl, m, os, rfl⟩
      have hbl := blk_lt hg
      have hh2 := holds_grow (Value.int .i64) (putRow (Value.int .i64) (Sort.ahead w m) g 0 (H.mergeSort fun x y => decide (x ≤ y)).toArray) os g 0 _ (by simpa using hbl) (holds_putRow (Value.int .i64) (Sort.ahead w m) g 0 H.toArray (H.mergeSort fun x y => decide (x ≤ y)).toArray (holds_ahead _ _ _ _ _ _ hH) (by simp))
      have gg : w.grownBy (grow (putRow (Value.int .i64) (Sort.ahead w m) g 0 (H.mergeSort fun x y => decide (x ≤ y)).toArray) os) (some g) := by
        have g1 := grown_put (g := g) (w := w) (H.mergeSort fun x y => decide (x ≤ y)).toArray m
        refine grown_two g1 ⟨rfl, rfl, rfl, by simp, fun j hj _ => heap_grow_old _ _ hj⟩
      refine ⟨rfl, ?_, ⟨hls, hnc, hm, (fun h => by cases h), hfit, fun _ => ⟨g, 0, rfl, fun j hj => ?_⟩⟩, s.be.trans (below_grown gg (fun j hj => by cases hj; have := s.ok.hO; omega) s.be.size)⟩
      · have : (grow (putRow (Value.int .i64) (Sort.ahead w m) g 0 (H.mergeSort fun x y => decide (x ≤ y)).toArray) os).heap[k.C]? = w.heap[k.C]? := gg.block _ (blk_lt s.cl) (fun e => blk_ne s.cl hg (by decide) (Option.some.inj e))
        rw [World.cell?_of_block (w := w) this]; exact hc
      · have := (hh2 j (by simp; omega)).1
        rw [this]
        congr 2
        have hj2 : j < (H.mergeSort fun x y => decide (x ≤ y)).length := by omega
        rw [getElem!_pos _ _ (by simpa using hj2)]
        rw [List.getD_eq_getElem?_getD, List.getElem?_eq_getElem hj2]; rfl

def CloseEnd (w : World) (L : List (List Int)) (S : List Int) (e : Ending) (w' : World) : Prop :=
  ∃ (ao : Option Addr) (m c : Nat) (xs : List Int) (ok : Bool), e = .returned (.tuple #[.slice ao m c, .bool ok]) ∧ Row w' ao m c xs ∧ Res L S xs ok ∧ Below w.heap.size w w'

theorem row_none (w : World) : Row w none 0 0 [] := ⟨rfl, Nat.le_refl _, by unfold maxLen; omega, fun _ => rfl, fun x hx => by simp at hx, fun h => by omega⟩

theorem close_no {w w' : World} {L : List (List Int)} {S : List Int} (h : Bad L S ∧ Below w.heap.size w w') : CloseEnd w L S (.returned (.tuple #[.slice none 0 0, .bool false])) w' :=
  ⟨none, 0, 0, [], false, rfl, row_none _, res_false h.1, h.2⟩

set_option maxHeartbeats 1000000 in
theorem close_any (w : World) (la : Option Addr) (n cap : Nat) (L : List (List Int)) (gr : Grid w la n cap L) (sa : Option Addr) (sn scap : Nat) (S : List Int) (hr : Row w sa sn scap S) (hn : n ≤ 100) (hs : sn ≤ 10000) (hl : ∀ c ∈ L, c.length ≤ 1000) :
    Calls Try.prog 23 #[.slice la n cap, .slice sa sn scap] w fun e w' => CloseEnd w L S e w' := by
  have HGR := hid gr
  have HR := hid hr
  have HL := hid hl
  clear gr hr hl
  go_enter Try.func23, Try.ntmps23
  go_wp2_with (first
    | (go_at_call 32; with_reducible (refine (begin_at w la n cap L HGR.out sa sn scap S HR.out hn hs HL.out).mono ?_); rintro e w1 ⟨k, fst, us, op, rfl, HK, hp, HU⟩)
    | (go_at_call 33; with_reducible (refine (takeAll_b _ HK.out HR.out hp.out).mono ?_); rintro e w2 (⟨rfl, hF⟩ | ⟨rfl, hT2⟩))
    | (go_at_call 34; with_reducible (refine (settleAll_b _ HK.out HGR.out HU.out hT2.out).mono ?_); rintro e w3 (⟨rfl, hF⟩ | ⟨rfl, hT3⟩))
    | (go_at_call 35; with_reducible (refine (spread_b _ HK.out HGR.out HU.out hT3.out).mono ?_); rintro e w4 (⟨rfl, hF⟩ | ⟨fst4, us4, op4, H4, ao4, cp4, rfl, c5, hp4, hg4, hS4⟩))
    | (go_at_call 36; with_reducible (refine (sort_held _ hp4.out ao4 cp4 c5).mono ?_); rintro e w5 ⟨rfl, c6, hR5⟩))
  · go_ret2
    exact close_no hF.out
  · go_ret2
    exact close_no hF.out
  · go_ret2
    exact close_no hF.out
  · go_ret2
    exact ⟨ao4, H4.length, cp4, _, true, rfl, hR5.out.1, got_res hp4.out hg4.out hS4.out, by have := hR5.out.2; rw [HK.out.1] at this; exact this⟩

end Go.Proofs.Ytdkkdfgaponlbaa
