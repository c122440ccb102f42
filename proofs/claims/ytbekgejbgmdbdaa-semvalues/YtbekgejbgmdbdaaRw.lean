/-
  reckon, where the terms themselves are told: the walk.
-/
import Derived.Test.YtbekgejbgmdbdaaRn
import Derived.Test.YtbekgejbgmdbdaaBwalk
namespace Go.Proofs.Ytbekgejbgmdbdaa
open Go.RowKit Go.Maps
set_option linter.unusedVariables false
set_option maxRecDepth 20000

theorem two_newn (w : World) (zz : Array Value) (v0 v1 v2 v3 v4 v5 : Value) :
    ((w.alloc (.cells #[v0, v1, v2, v3, v4, v5] 61)).alloc (.cells zz 99)).heap[w.heap.size]? = some (.cells #[v0, v1, v2, v3, v4, v5] 61 (0, 0)) ∧ ((w.alloc (.cells #[v0, v1, v2, v3, v4, v5] 61)).alloc (.cells zz 99)).heap[w.heap.size + 1]? = some (.cells zz 99 (0, 0)) := by
  have b : Below (w.alloc (.cells #[v0, v1, v2, v3, v4, v5] 61)).heap.size (w.alloc (.cells #[v0, v1, v2, v3, v4, v5] 61)) ((w.alloc (.cells #[v0, v1, v2, v3, v4, v5] 61)).alloc (.cells zz 99)) := by go_grown
  refine ⟨by rw [b.block _ (by simp)]; exact new_same _ _, ?_⟩
  have := new_same (w.alloc (.cells #[v0, v1, v2, v3, v4, v5] 61)) (.cells zz 99)
  simpa using this

theorem zz18 : (#[.int .i64 0, .int .i64 0, .int .i64 0, .int .i64 0, .int .i64 0, .int .u64 0, .int .i64 0, .int .i64 0, .int .i64 0, .int .i64 0, .int .i64 0, .int .u64 0, .int .i64 0, .int .i64 0, .int .i64 0, .int .i64 0, .int .i64 0, .int .u64 0] : Array Value).size = 18 ∧ ∀ v ∈ (#[.int .i64 0, .int .i64 0, .int .i64 0, .int .i64 0, .int .i64 0, .int .u64 0, .int .i64 0, .int .i64 0, .int .i64 0, .int .i64 0, .int .i64 0, .int .u64 0, .int .i64 0, .int .i64 0, .int .i64 0, .int .i64 0, .int .i64 0, .int .u64 0] : Array Value).toList, v.oneCell' = true := by
  refine ⟨rfl, fun v hv => ?_⟩
  simp at hv
  rcases hv with rfl | rfl | rfl | rfl | rfl | rfl <;> rfl

theorem sn_start {w0 wr w3 w5 : World} {mb : Nat} {val : Nat → Nd} {H S : List Nat} {v : Value} {n : Nd} {ao : Option Addr} {c : Nat} {zz : Array Value} (hzz : zz.size = 18 ∧ ∀ v ∈ zz.toList, v.oneCell' = true) (h : SK nR w0 mb val H S v wr) (b3 : Below wr.heap.size wr w3)
    (b5 : Below ((w3.alloc (.cells #[.int .i64 n.op, .int .i64 n.wd, .int .i64 n.a, .int .i64 n.b, .int .i64 n.c, .int .u64 n.v] 61)).alloc (.cells zz 99)).heap.size ((w3.alloc (.cells #[.int .i64 n.op, .int .i64 n.wd, .int .i64 n.a, .int .i64 n.b, .int .i64 n.c, .int .u64 n.v] 61)).alloc (.cells zz 99)) w5)
    (r5 : Ls.Row w5 ao (ksF n).length c (ksF n)) (f5 : ∀ ad, ao = some ad → ((w3.alloc (.cells #[.int .i64 n.op, .int .i64 n.wd, .int .i64 n.a, .int .i64 n.b, .int .i64 n.c, .int .u64 n.v] 61)).alloc (.cells zz 99)).heap.size ≤ ad.block) :
    ∃ kb ko, Hid (0 < (ksF n).length → ao = some ⟨kb, ko, none⟩) ∧ Hid (SN w0 mb val H S n w3.heap.size (w3.heap.size + 1) kb ko v w5) := by
  obtain ⟨z1, z2⟩ := two_newn w3 zz (.int .i64 n.op) (.int .i64 n.wd) (.int .i64 n.a) (.int .i64 n.b) (.int .i64 n.c) (.int .u64 n.v)
  have L4 : Below w3.heap.size w3 ((w3.alloc (.cells #[.int .i64 n.op, .int .i64 n.wd, .int .i64 n.a, .int .i64 n.b, .int .i64 n.c, .int .u64 n.v] 61)).alloc (.cells zz 99)) := by go_grown
  have hsz : ((w3.alloc (.cells #[.int .i64 n.op, .int .i64 n.wd, .int .i64 n.a, .int .i64 n.b, .int .i64 n.c, .int .u64 n.v] 61)).alloc (.cells zz 99)).heap.size = w3.heap.size + 2 := by simp
  rw [hsz] at f5
  have b6 := Below.next b3 (Below.next L4 b5)
  have hz1 := (b5.block _ (blk_lt z1)).trans z1
  have hz2 := (b5.block _ (blk_lt z2)).trans z2
  have s0 := h.be.size
  have s1 := b3.size
  have px : ∃ cs : Array Value, w5.heap[w3.heap.size + 1]? = some (.cells cs 99 (0, 0)) ∧ cs.size = 18 ∧ ∀ v ∈ cs.toList, v.oneCell' = true := ⟨zz, hz2, hzz.1, hzz.2⟩
  by_cases h0 : 0 < (ksF n).length
  · obtain ⟨kb, ko, e, hc⟩ := r5.2.2.2.2.2 h0
    have hk := f5 _ e
    simp only [] at hk
    refine ⟨kb, ko, hid fun _ => e, hid ⟨h.below b6, hz1, px, by omega, hc, fun _ => ⟨fun e2 => ?_, ?_, by omega⟩⟩⟩
    · obtain ⟨_, cur, hcur⟩ := own_type h.ow e2
      have := blk_lt hcur
      omega
    · exact cell_lt (hc 0 h0)
  · exact ⟨0, 0, hid fun e => absurd e h0, hid ⟨h.below b6, hz1, px, by omega, fun j hj => by omega, fun e => absurd e h0⟩⟩

set_option maxHeartbeats 8000000 in
theorem reckon_n {k : K} {w : World} {N : List Nd} {P : Nat → Prop} (s : Dg k w N P) (wl : Wl N) (hL : N.length ≤ 150) (id : Nat) (hi : id < N.length) :
    Calls Try.prog 30 #[.pointer (some ⟨k.DB, 0, none⟩), .int .i64 id, .func (.func 31) #[] #[]] w fun e w' =>
      ∃ mb H, e = .returned (.map (some mb)) ∧ Hid (HeldIs nR w' mb H (fun j => ndA N (j : Nat))) ∧ Hid (BelL N id H) ∧ Hid (Below w.heap.size w w') := by
  have HS := hid s
  have HW := hid wl
  have GD := hid s.1
  have HI := hid (isN_nat hi)
  have hi2 := hid hi
  have HL := hid hL
  have hmm := @run_makeMap Try.prog
  obtain ⟨n1, hn⟩ : ∃ n1, ndA N id = n1 := ⟨_, rfl⟩
  obtain ⟨op, wd, na, nb, nc, nv⟩ := n1
  have HN := hid hn
  clear s wl hi hL hn
  go_enter Try.func30, Try.ntmps30
  go_wp2_with (go_at_call 58; with_reducible (refine (node_as (Dg.below HS.out (by go_grown)) (id : Int) HN.out HI.out).mono ?_); rintro e w2 ⟨rfl, b2⟩)
  have K0 : Hid (SK nR w w.heap.size (fun j => ndA N (j : Nat)) [] [id] (.slice (some ⟨w2.heap.size + 1, 0, none⟩) 1 1) ((w2.alloc (.cells #[.int .i64 op, .int .i64 wd, .int .i64 na, .int .i64 nb, .int .i64 nc, .int .u64 nv] 61)).alloc (.cells #[.int .i64 (id : Int)] 3))) :=
    hid (skn_start w w _ (Below.refl _ _) rfl (by simp) (Below.next b2.out (by go_grown)) _ _)
  clear HI HN hmm
  go_loopg [10] (muF N [] [id]) (fun m v wr => ∃ H S, m = muF N H S ∧ Hid (RI N id H S) ∧ Hid (SK nR w w.heap.size (fun j => ndA N (j : Nat)) H S v wr))
  case atStart => exact ⟨[], [id], rfl, hid (RI.start hi2.out), K0⟩
  case round =>
    clear K0 b2
    obtain ⟨H, S0, rfl, hri, hsk⟩ := hrel
    rcases snoc_or S0 with rfl | ⟨S, x, rfl⟩
    · obtain ⟨ao, c, rfl⟩ := hsk.out.nil
      go_wp2_with fail
      go_ret
      exact ⟨_, H, rfl, hid hsk.out.mp, hid hri.out.done, hid hsk.out.be⟩
    · obtain ⟨g, c, rfl, hcx, hc1, hc2⟩ := hsk.out.shape
      obtain ⟨hlH, hlS, hlen⟩ := hri.out.lt HW.out GD.out hi2.out
      have hxl : x < N.length := hlS x (by simp)
      have hsl := hri.out.slen HW.out GD.out hi2.out HL.out
      have hL := HL.out
      simp at hsl
      obtain ⟨m, hm⟩ : ∃ m, S.length = m := ⟨_, rfl⟩
      rw [hm] at hcx hc1 hsl
      have HM := hid hm
      have hm1 : ((m : Int) + 1 - 1) = m := by omega
      have hm2 : m ≤ c := by omega
      have HXL := hid hxl
      have HLN := hid hlen
      cases hx : inF H x
      · have HX := hid hx
        have hlk := nOut hsk.out.mp hx (by omega)
        obtain ⟨n1, hn⟩ : ∃ n1, ndA N x = n1 := ⟨_, rfl⟩
        have HF := hid (GD.out.ft _ (ndA_mem (isN_nat hxl)))
        have HSH := hid (HW.out.shp GD.out hxl)
        have HIX := hid (isN_nat hxl)
        rw [hn] at HF HSH
        have HN := hid hn
        clear hlH hlS hlen hxl hm hx hL hn
        have K1 := hid (hsk.out.below (new_b wr (.cells #[.int .i64 0, .int .i64 0, .int .i64 0, .int .i64 0, .int .i64 0, .int .u64 0] 61)))
        rw [HM.out]
        go_wp2_with (first
          | (go_at_call 58; with_reducible (refine (node_at (Dg.below HS.out K1.out.be) (x : Int) HN.out HIX.out).mono ?_); rintro e w3 ⟨rfl, b3⟩)
          | (go_at_call 59; with_reducible (refine (parts_any n1 HF.out _).mono ?_); rintro e w5 ⟨ao5, c5, rfl, r5, b5, f5⟩))
        obtain ⟨kb, ko, hk, HQ0⟩ := sn_start zz18 K1.out b3.out b5.out r5.out f5.out
        have HKA := hid (ks_ahead HSH.out)
        have hks3 := ks_len n1
        clear hlk hcx hc1 hc2 hm1 hm2 b3 b5 r5 f5 hsk K1 HIX HF
        revert HQ0
        generalize w3.heap.size + 1 = pb
        generalize w3.heap.size = nb
        intro HQ0
        go_loopw [10, 18, 64] (fun v rd i wq => ∃ q : Nat, q ≤ (ksF n1).length ∧ i = .int .i64 q ∧ rd = .bool (newF H ((ksF n1).take q)).isEmpty ∧ Hid (SN w w.heap.size (fun j => ndA N (j : Nat)) H (S ++ [x] ++ newF H ((ksF n1).take q)) n1 nb pb kb ko v wq)) (fun _ _ i _ => (ksF n1).length - (intOf i).toNat)
        case atStart => exact ⟨0, Nat.zero_le _, rfl, rfl, by have h := HQ0; rw [HM.out] at h; simpa [newF] using h⟩
        case round =>
          clear HQ0
          obtain ⟨q, hq, rfl, rfl, HQ⟩ := hrel
          by_cases hlt : q < (ksF n1).length
          · obtain rfl := hk.out (by omega)
            have hlt' : (q : Int) < (ksF n1).length := by omega
            obtain ⟨yn, hyn, hyx, hyl⟩ := part_at HKA.out hlt
            have cy := HQ.out.at hlt
            rw [hyn] at cy
            have HY := hid hyn
            have HYL := hid hyl
            have hq3 : q < 3 := by omega
            have hq3' : (q : Int) < 3 := by omega
            have hxl := HXL.out
            have hL := HL.out
            cases hin : inF H yn
            · have hlk2 := nOut HQ.out.sk.mp hin (by omega)
              have HIN := hid hin
              have HLT := hid hlt
              have hsl2 : (S ++ [x] ++ newF H ((ksF n1).take q)).length ≤ 1000000 := by
                have := newF_len H ((ksF n1).take q)
                simp at this ⊢
                have := HM.out
                omega
              have HSL := hid hsl2
              have hbz := HQ.out.sk.be.size
              clear hyn hyl hin hq3 hxl hL hlt hsl2
              have HB1 := hid (HQ.out.below (new_b wr (.cells #[.int .i64 0, .int .i64 0, .int .i64 0, .int .i64 0, .int .i64 0, .int .u64 0] 61)))
              have HQ3 : Hid (q < 3) := hid (by have := HLT.out; omega)
              have HBZ : Hid (w.heap.size ≤ (wr.alloc (.cells #[.int .i64 0, .int .i64 0, .int .i64 0, .int .i64 0, .int .i64 0, .int .u64 0] 61)).heap.size) := hid (by simp; omega)
              go_wp2_with (at_builtin; refine append_one rfl (.tmp 77) (.tmp 79) rfl w.heap.size _ (S ++ [x] ++ newF H ((ksF n1).take q)) (yn : Int) rfl HB1.out.sk.ow (wr.heap.size + 1) (by simp) rfl HSL.out HBZ.out ?_; intro v6 w6 ow6 gr6 nb6; have Q6 := hid (HB1.out.push (Nat.lt_of_le_of_lt (Nat.zero_le _) HLT.out) gr6.out ow6.out nb6.out); have hce := Q6.out.1.cells6 HQ3.out; obtain ⟨u0, u1, u2, u3, u4, u5, a0, a1, a2, a3, a4, a5, f0, f1, f2, f3, f4, f5⟩ := hce; have hbx := bxSix (Q6.out.2 (new_same _ _)); obtain ⟨e0, e1, e2, e3, e4, e5⟩ := hbx)
              have hN1 := newF_out (H := H) HYL.out HIN.out
              have Q7 := hid (Q6.out.1.set6 (q * 6) z6)
              go_roundw
              case rel => exact ⟨q + 1, by have := HLT.out; omega, by go_num, by rw [hN1]; simp, by rw [hN1, ← List.append_assoc]; exact Q7⟩
              case measure => simp only [intOf]; omega
            · have hlk2 := nIn HQ.out.sk.mp hin (by omega)
              have HE2 : Hid (newF H ((ksF n1).take (q + 1)) = newF H ((ksF n1).take q)) := hid (newF_in hyl (by simpa using hin))
              obtain ⟨zn, hzn⟩ : ∃ zn, ndA N yn = zn := ⟨_, rfl⟩
              rw [hzn] at hlk2
              have B1 := hid (HQ.out.below (new_b wr (.cells #[.int .i64 zn.op, .int .i64 zn.wd, .int .i64 zn.a, .int .i64 zn.b, .int .i64 zn.c, .int .u64 zn.v] 61)))
              have Q7 := hid (B1.out.set6 (q * 6) zn)
              obtain ⟨u0, u1, u2, u3, u4, u5, a0, a1, a2, a3, a4, a5, f0, f1, f2, f3, f4, f5⟩ := B1.out.cells6 hq3
              clear hzn hyn hyl hin hq3 hxl hL
              go_wp2_with fail
              go_roundw
              case rel => exact ⟨q + 1, by omega, by go_num, by rw [HE2.out], by rw [HE2.out]; exact Q7⟩
              case measure => simp only [intOf]; omega
          · obtain rfl : q = (ksF n1).length := by omega
            rw [List.take_length] at HQ ⊢
            have HXH := HX
            by_cases hne : newF H (ksF n1) = []
            · rw [hne] at HQ ⊢
              rw [List.append_nil] at HQ
              have HR := hid (hri.out.put HW.out GD.out hi2.out HL.out HX.out (by rw [HN.out]; exact hne))
              obtain ⟨s0, s1, s2, s3, s4, s5⟩ := HQ.out.six
              have HXB : Hid (x ≤ 1000000) := hid (by have := HXL.out; have := HL.out; omega)
              have HHB : Hid (H.length ≤ 1000000) := hid (by have := HLN.out; have := HL.out; omega)
              obtain ⟨x0, x1, x2, x3, x4, x5, x6, x7, x8, x9, x10, x11, x12, x13, x14, x15, x16, x17, e0, e1, e2, e3, e4, e5, e6, e7, e8, e9, e10, e11, e12, e13, e14, e15, e16, e17⟩ := HQ.out.all
              clear hne
              go_wp2_with (go_at_call 31; with_reducible (refine (itself_any n1 _ _).mono ?_); rintro e w8 ⟨rfl, b8⟩; obtain ⟨w9, hup, hk9⟩ := nput (HQ.out.sk.below b8.out) HX.out HXB.out HHB.out HN.out)
              go_roundg (muF N (H ++ [x]) (S ++ [x]))
              case measure => exact HR.out.2
              case rel => exact ⟨H ++ [x], S ++ [x], rfl, hid HR.out.1, hk9⟩
            · have he : (newF H (ksF n1)).isEmpty = false := by simpa using hne
              have HR := hid (hri.out.push HW.out GD.out hi2.out HX.out (by rw [HN.out]; exact hne))
              rw [HN.out] at HR
              rw [he]
              clear hne he
              go_wp2_with fail
              go_roundg (muF N H (S ++ [x] ++ newF H (ksF n1)))
              case measure => exact HR.out.2
              case rel => exact ⟨H, S ++ [x] ++ newF H (ksF n1), rfl, hid HR.out.1, hid HQ.out.sk⟩
      · have hlk := nIn hsk.out.mp hx (by omega)
        have HR := hid (hri.out.pop HW.out GD.out hi2.out hx)
        have HK := hid (hsk.out.pop.below (new_b wr (.cells #[.int .i64 (ndA N x).op, .int .i64 (ndA N x).wd, .int .i64 (ndA N x).a, .int .i64 (ndA N x).b, .int .i64 (ndA N x).c, .int .u64 (ndA N x).v] 61)))
        rw [HM.out] at HK ⊢
        clear hlH hlS hlen hxl hm hx hL
        go_wp2_with fail
        go_roundg (muF N H S)
        case measure => exact HR.out.2
        case rel => exact ⟨H, S, rfl, hid HR.out.1, HK⟩

end Go.Proofs.Ytbekgejbgmdbdaa
