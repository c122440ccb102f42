/-
  strike: all clauses that have a literal are told that it does not hold.
-/
import Derived.Test.YtdkkdfgaponlbaaGhost
namespace Go.Proofs.Ytdkkdfgaponlbaa
open Go.RowKit Go.Maps
set_option linter.unusedVariables false

def GoEnd (k : K) (fst : Int → Int) (us : List (Int × Int)) (L : List (List Int)) (S H : List Int) (st : Nat → Int → Bool) (e : Ending) (w' : World) : Prop :=
  (e = .returned (.bool false) ∧ Bad L S ∧ Below k.w0.heap.size k.w0 w') ∨
  (e = .returned (.bool true) ∧ ∃ op' T, P2 k fst us op' (H ++ T) w' ∧ Gd L S op' (H ++ T) st)

theorem settle_no (k : K) (fst : Int → Int) (us : List (Int × Int)) (op H c : List Int) (L : List (List Int)) (w : World) (hp : P2 k fst us op H w) (gr : Grid k.w0 k.la k.n k.cap L) (i : Nat) (hi : L[i]? = some c) (ham : Among k c)
    (h : ∀ y ∈ c, 0 ≤ y → notF y ∈ H) : Calls Try.prog 42 #[.pointer (some ⟨k.C, 0, none⟩), .int .i64 i] w fun e w' => e = .returned (.bool false) ∧ Hid (P2 k fst us op H w') := by
  refine (settle_any k fst us op H c L w hp gr i hi ham).mono fun e w' he => ?_
  rcases he with ⟨_, h1, h2⟩ | ⟨x, hx, x0, hn, _⟩
  · exact ⟨h1, h2⟩
  · exact absurd (h x hx x0) hn

theorem settle_yes (k : K) (fst : Int → Int) (us : List (Int × Int)) (op H c : List Int) (L : List (List Int)) (w : World) (hp : P2 k fst us op H w) (gr : Grid k.w0 k.la k.n k.cap L) (i : Nat) (hi : L[i]? = some c) (ham : Among k c)
    (h : ¬ ∀ y ∈ c, 0 ≤ y → notF y ∈ H) : Calls Try.prog 42 #[.pointer (some ⟨k.C, 0, none⟩), .int .i64 i] w fun e w' => ∃ y, e = .returned (.bool true) ∧ Hid (y ∈ c ∧ 0 ≤ y ∧ notF y ∉ H) ∧ Hid (P2 k fst us op (addH H y) w') := by
  refine (settle_any k fst us op H c L w hp gr i hi ham).mono fun e w' he => ?_
  rcases he with ⟨h1, _⟩ | ⟨x, hx, x0, hn, h1, h2⟩
  · exact absurd h1 h
  · exact ⟨x, h1, ⟨hx, x0, hn⟩, h2⟩

theorem cnt_le (st : Int → Bool) (r : List Int) : cntU st r ≤ r.length := List.countP_le_length

theorem g_le {L : List (List Int)} {S op H c : List Int} {st : Nat → Int → Bool} {i m : Nat} (g : Gd L S op H st) (hi : L[i]? = some c) (h : op[i]? = some ((m + 1 : Nat) : Int)) : m + 1 ≤ (dd c).length := by
  have := g.cnt i c hi
  rw [h] at this
  have e := Option.some.inj this
  have := cnt_le (st i) (dd c)
  omega

theorem among_at {k : K} {L : List (List Int)} {c : List Int} {i : Nat} (h : ∀ c ∈ L, Among k c) (hi : L[i]? = some c) : Among k c := h c (List.mem_of_getElem? hi)

def StrikeRel (k : K) (fst : Int → Int) (us : List (Int × Int)) (L : List (List Int)) (S H : List Int) (st : Nat → Int → Bool) (x : Int) (cs : List Nat) (p : Nat) (done rest : List Nat) (op' T : List Int) (w : World) : Prop :=
  done ++ rest = cs ∧ Chain us p rest ∧ P2 k fst us op' (H ++ T) w ∧ Gd L S op' (H ++ T) (stD st x done)

set_option maxHeartbeats 4000000 in
theorem strike_any (k : K) (fst : Int → Int) (us : List (Int × Int)) (L : List (List Int)) (S op H : List Int) (st : Nat → Int → Bool) (w : World) (hp : P2 k fst us op H w) (hg : Gd L S op H st) (gr : Grid k.w0 k.la k.n k.cap L) (ham : ∀ c ∈ L, Among k c)
    (x : Int) (hx : x ∈ k.Ks) (p : Nat) (cs : List Nat) (hf : fst x = p) (hch : Chain us p cs) (hcs : ∀ i ∈ cs, ∃ c, L[i]? = some c ∧ x ∈ dd c ∧ st i x = false) (hnd : cs.Nodup) (hxH : notF x ∈ H) (hul : us.length ≤ 100000000) :
    Calls Try.prog 43 #[.pointer (some ⟨k.C, 0, none⟩), .int .i64 x] w fun e w' => GoEnd k fst us L S H (stD st x cs) e w' := by
  have HP := hid hp
  have HG := hid hg
  have HGR := hid gr
  have HAM := hid ham
  have HX := hid hx
  have HF := hid hf
  have HCH := hid hch
  have HCS := hid hcs
  have HND := hid hnd
  have HXH := hid hxH
  clear hp hg gr ham hx hf hch hcs hnd hxH
  go_enter Try.func43, Try.ntmps43
  go_wp2_with (go_at_call 51; with_reducible (refine (of_p2 k fst us op H _ HP.out _ HX.out).mono ?_); rintro e w1 ⟨b1, o1, rfl, d0, d2, hp1⟩)
  go_loopw [5, 6] (fun at_ _ wr => ∃ (p : Nat) (done rest : List Nat) (op' T : List Int), at_ = .int .i64 p ∧ Hid (StrikeRel k fst us L S H st x cs p done rest op' T wr)) (fun at_ _ _ => (intOf at_).toNat)
  case atStart => exact ⟨p, [], cs, op, [], by rw [HF.out], hid ⟨rfl, HCH.out, by rw [List.append_nil]; exact hp1.out, by rw [stD_nil, List.append_nil]; exact HG.out⟩⟩
  case round =>
    clear d0 d2 hp1 HP HG
    obtain ⟨p, done, rest, op', T, rfl, hrel⟩ := hrel
    obtain ⟨hcat, hch, hp2, hg2⟩ := hrel.out
    rcases rest with _ | ⟨i, rest⟩
    · obtain rfl : p = 0 := hch
      have HE := hid hcat
      have HP2 := hid hp2
      have HG2 := hid hg2
      clear hcat hp2 hg2 hrel
      go_wp2
      go_ret
      exact .inr ⟨rfl, op', T, HP2.out, by have := HE.out; simp at this; subst this; exact HG2.out⟩
    · obtain ⟨q, nx, rfl, hq, hle, hch2⟩ := hch
      obtain ⟨c, hci, hxc, hst⟩ := HCS.out i (by rw [← hcat]; simp)
      have hndi : i ∉ done := fun h => by
        have := HND.out; rw [← hcat, List.nodup_append] at this
        exact this.2.2 i h i (by simp) rfl
      have hxT : notF x ∈ H ++ T := List.mem_append.2 (.inl HXH.out)
      have hcnt := strike_cnt hg2 hci hxc hst hndi
      obtain ⟨m, hm⟩ : ∃ m, m = cntU (stD st x (done ++ [i]) i) (dd c) := ⟨_, rfl⟩
      rw [← hm] at hcnt
      have hin : i < k.n := by have := (List.getElem?_eq_some_iff.1 hci).1; rw [HGR.out.1] at this; exact this
      have hmb : m ≤ 9223372036854775806 := by
        obtain ⟨b9, off9, a9, m9, c9, ys9, _, _, hy9, hr9⟩ := HGR.out.at hin
        have := hy9.out; rw [hci] at this; cases this
        have h1 := hr9.out.max; have h2 := hr9.out.1; have h3 := dd_len c
        have h4 := g_le hg2 hci hcnt
        omega
      obtain ⟨g, cap, u0, u1, u2⟩ := hp2.use hq
      obtain ⟨v0, v1, v2⟩ := hp2.op hcnt
      have hp3 := hp2.putop i (m : Int)
      obtain ⟨v3, v4, v5⟩ := hp3.op (i := i) (t := (m : Int)) (by rw [List.getElem?_set_self (op_len hg2 hci)])
      obtain ⟨g', cap', u3, u4, u5⟩ := hp3.use hq
      have hql : q < us.length := (List.getElem?_eq_some_iff.1 hq).1
      have hql' : (q : Int) < us.length := by omega
      have hin' : (i : Int) < k.n := by omega
      have hcat2 : Hid ((done ++ [i]) ++ rest = cs) := hid (by rw [← hcat]; simp)
      push_cast at v1
      simp only [] at u1 u2 u4 u5
      have HP3 := hid hp3
      have HCH2 := hid hch2
      have HAMc := hid (among_at HAM.out hci)
      have HCI := hid hci
      have HQ := hid hq
      by_cases h1 : m = 1
      · have hm1 : cntU (stD st x (done ++ [i]) i) (dd c) = 1 := by omega
        have e1 : ((m : Nat) : Int) = 1 := by omega
        rw [e1] at v1 v3 v4 v5 u3 u4 u5 HP3
        by_cases hall : ∀ y ∈ c, 0 ≤ y → notF y ∈ H ++ T
        · have HB := hid (settle_bad (S := S) (List.mem_of_getElem? hci) hg2.der hall)
          have HALL := hid hall
          clear hcat hg2 hrel hp2 hxc hst hcnt hm hm1 hall hch2 hq hci hp3 hxT h1 e1
          go_wp2_with (go_at_call 42; with_reducible (refine (settle_no k fst us _ _ c L _ HP3.out HGR.out i HCI.out HAMc.out HALL.out).mono ?_); rintro e w5 ⟨rfl, hp5⟩)
          go_ret
          exact .inl ⟨rfl, HB.out, hp5.out.be⟩
        · have HALL := hid hall
          have HNEXT : Hid (∀ y, y ∈ c ∧ 0 ≤ y ∧ notF y ∉ H ++ T → Gd L S (op'.set i (1 : Int)) (addH (H ++ T) y) (stD st x (done ++ [i]))) := hid (by
            rintro y ⟨y0, y1, y2⟩
            have := strike_settled hg2 hci hxc hst hndi hxT hm1 y0 y1 y2
            rw [← hm, e1] at this; exact this)
          clear hcat hg2 hrel hp2 hxc hst hcnt hm hm1 hall hch2 hq hci hp3 hxT h1 e1
          go_wp2_with (go_at_call 42; with_reducible (refine (settle_yes k fst us _ _ c L _ HP3.out HGR.out i HCI.out HAMc.out HALL.out).mono ?_); rintro e w5 ⟨y, rfl, hy, hp5⟩; obtain ⟨g5, cap5, u6, u7, u8⟩ := hp5.out.use HQ.out)
          go_roundw
          case rel =>
            obtain ⟨T2, hT2⟩ := addH_pre (H ++ T) y
            refine ⟨nx, done ++ [i], rest, op'.set i 1, T ++ T2, rfl, hid ⟨hcat2.out, HCH2.out, ?_, ?_⟩⟩
            · rw [← List.append_assoc, ← hT2]; exact hp5.out
            · rw [← List.append_assoc, ← hT2]; exact HNEXT.out y hy.out
          case measure => simp [intOf]; omega
      · have HG3 := hid (strike_other hg2 hci hxc hst hndi hxT (by omega))
        have h1' : ((m : Int) == 1) = false := by simp; omega
        rw [← hm] at HG3
        clear hcat hg2 hrel hp2 hxc hst hcnt hm hch2 hq hci hp3 hxT
        go_wp2
        go_roundw
        case rel => exact ⟨nx, done ++ [i], rest, _, T, rfl, hid ⟨hcat2.out, HCH2.out, HP3.out, HG3.out⟩⟩
        case measure => simp [intOf]; omega

end Go.Proofs.Ytdkkdfgaponlbaa
