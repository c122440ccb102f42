/-
  reckon, where words are made: the walk.
-/
import Derived.Test.YtbekgejbgmdbdaaRk
import Derived.Test.YtbekgejbgmdbdaaPb
namespace Go.Proofs.Ytbekgejbgmdbdaa
open Go.RowKit Go.Maps
set_option linter.unusedVariables false
set_option maxRecDepth 20000

theorem uIn {w : World} {mb : Nat} {H : List Nat} {val : Nat → Int} (h : HeldIs uR w mb H val) {j : Nat} (hj : inF H j = true) (hb : j ≤ 1000000) : (Instr.lookup 62 (.map (some mb)) (.int .i64 j) true).run Try.prog w = .ok (.tuple #[.int .u64 (val j), .bool true]) w := h.look_in (by simpa [inF] using hj) hb
theorem uOut {w : World} {mb : Nat} {H : List Nat} {val : Nat → Int} (h : HeldIs uR w mb H val) {j : Nat} (hj : inF H j = false) (hb : j ≤ 1000000) : (Instr.lookup 62 (.map (some mb)) (.int .i64 j) true).run Try.prog w = .ok (.tuple #[.int .u64 0, .bool false]) w := h.look_out (fun k hk e => by
  have : j = k := by omega
  subst this; simp [inF] at hj; exact hj hk) (by omega) (by omega)

theorem snoc_or (l : List Nat) : l = [] ∨ ∃ S x, l = S ++ [x] := by
  rcases List.eq_nil_or_concat l with h | ⟨S, x, h⟩
  · exact .inl h
  · exact .inr ⟨S, x, by rw [h]; simp⟩

theorem sq_start {w0 wr w3 w5 : World} {mb : Nat} {val : Nat → Int} {H S : List Nat} {v : Value} {n : Nd} {ao : Option Addr} {c : Nat} (h : SK uR w0 mb val H S v wr) (b3 : Below wr.heap.size wr w3)
    (b5 : Below ((w3.alloc (.cells #[.int .i64 n.op, .int .i64 n.wd, .int .i64 n.a, .int .i64 n.b, .int .i64 n.c, .int .u64 n.v] 61)).alloc (.cells #[.int .u64 0, .int .u64 0, .int .u64 0] 64)).heap.size ((w3.alloc (.cells #[.int .i64 n.op, .int .i64 n.wd, .int .i64 n.a, .int .i64 n.b, .int .i64 n.c, .int .u64 n.v] 61)).alloc (.cells #[.int .u64 0, .int .u64 0, .int .u64 0] 64)) w5)
    (r5 : Ls.Row w5 ao (ksF n).length c (ksF n)) (f5 : ∀ ad, ao = some ad → ((w3.alloc (.cells #[.int .i64 n.op, .int .i64 n.wd, .int .i64 n.a, .int .i64 n.b, .int .i64 n.c, .int .u64 n.v] 61)).alloc (.cells #[.int .u64 0, .int .u64 0, .int .u64 0] 64)).heap.size ≤ ad.block) :
    ∃ kb ko, Hid (0 < (ksF n).length → ao = some ⟨kb, ko, none⟩) ∧ Hid (SQ w0 mb val H S n w3.heap.size (w3.heap.size + 1) kb ko 0 v w5) := by
  obtain ⟨z1, z2⟩ := two_new w3 (.int .i64 n.op) (.int .i64 n.wd) (.int .i64 n.a) (.int .i64 n.b) (.int .i64 n.c) (.int .u64 n.v) (.int .u64 0) (.int .u64 0) (.int .u64 0)
  have L4 : Below w3.heap.size w3 ((w3.alloc (.cells #[.int .i64 n.op, .int .i64 n.wd, .int .i64 n.a, .int .i64 n.b, .int .i64 n.c, .int .u64 n.v] 61)).alloc (.cells #[.int .u64 0, .int .u64 0, .int .u64 0] 64)) := by go_grown
  have hsz : ((w3.alloc (.cells #[.int .i64 n.op, .int .i64 n.wd, .int .i64 n.a, .int .i64 n.b, .int .i64 n.c, .int .u64 n.v] 61)).alloc (.cells #[.int .u64 0, .int .u64 0, .int .u64 0] 64)).heap.size = w3.heap.size + 2 := by simp
  rw [hsz] at f5
  have b6 := Below.next b3 (Below.next L4 b5)
  have hz1 := (b5.block _ (blk_lt z1)).trans z1
  have hz2 := (b5.block _ (blk_lt z2)).trans z2
  have s0 := h.be.size
  have s1 := b3.size
  have px : ∃ cs : List Int, w5.heap[w3.heap.size + 1]? = some (.cells ((cs.map (Value.int .u64)).toArray) 64 (0, 0)) ∧ cs.length = 3 ∧ (∀ c ∈ cs, Wd64 c) ∧ ∀ j, j < 0 → inF H ((ksF n).getD j 0).toNat = true → cs.getD j 0 = val ((ksF n).getD j 0).toNat :=
    ⟨[0, 0, 0], hz2, rfl, fun c hc => by simp at hc; subst hc; exact ⟨by omega, by omega⟩, fun j hj => by omega⟩
  by_cases h0 : 0 < (ksF n).length
  · obtain ⟨kb, ko, e, hc⟩ := r5.2.2.2.2.2 h0
    have hk := f5 _ e
    simp only [] at hk
    refine ⟨kb, ko, hid fun _ => e, hid ⟨h.below b6, hz1, px, by omega, hc, fun _ => ⟨fun e2 => ?_, ?_, by omega⟩⟩⟩
    · obtain ⟨_, cur, hcur⟩ := own_type h.ow e2
      have := blk_lt hcur
      omega
    · exact cell_lt (hc 0 h0)
  · exact ⟨0, 0, hid fun e => absurd e h0, hid ⟨h.below b6, hz1, px, by omega, fun j hj => by omega, fun e => absurd e h0⟩⟩

theorem part_at {ks : List Int} {x q : Nat} (h : ∀ k ∈ ks, Ahd x k) (hq : q < ks.length) : ∃ yn : Nat, ks.getD q 0 = (yn : Int) ∧ yn < x ∧ ks[q]? = some (yn : Int) := by
  have e : ks[q]? = some (ks.getD q 0) := by simp [hq]
  obtain ⟨h0, h1⟩ := h _ (List.mem_of_getElem? e)
  obtain ⟨yn, hy⟩ := Int.eq_ofNat_of_zero_le h0
  exact ⟨yn, hy, by omega, by rw [e, hy]⟩

theorem uput {w0 wr : World} {mb : Nat} {val : Nat → Int} {H S : List Nat} {v : Value} {x : Nat} (h : SK uR w0 mb val H S v wr) (hx : inF H x = false) (hb : x ≤ 1000000) (hl : H.length ≤ 1000000) : ∃ w2, (Instr.mapUpdate 62 (.map (some mb)) (.int .i64 x) (.int .u64 (val x))).run Try.prog wr = .ok () w2 ∧ Hid (SK uR w0 mb val (H ++ [x]) S v w2) := h.put hx hb hl

/-- The word of a term whose parts are all held. -/
theorem mean_of {N : List Nd} (r : Wl N) (g : Gd N) {E : List Int} {x : Nat} (hx : x < N.length) {n : Nd} (hn : ndA N x = n) (ha : ∀ k ∈ ksF n, Ahd x k) {cs : List Int} (h : ∀ j, j < (ksF n).length → True → cs.getD j 0 = vF N E (((ksF n).getD j 0).toNat : Nat)) : meanF N E n cs = vF N E x := by
  rw [vF_eq r g E hx, hn]
  refine mean_congr (hn ▸ r.shp g hx) fun j hj => ?_
  rw [h j hj trivial]
  have e : (ksF n)[j]? = some ((ksF n).getD j 0) := by simp [hj]
  obtain ⟨h0, _⟩ := ha _ (List.mem_of_getElem? e)
  have e2 : (((ksF n).getD j 0).toNat : Int) = (ksF n).getD j 0 := by omega
  rw [e2]
  simp [hj]

theorem sk_start (w0 w1 w2 : World) (b1 : Below w0.heap.size w0 w1) {b : Nat} (hb : b = w1.heap.size) {g : Nat} (hg : g = w2.heap.size) (b2 : Below (w1.alloc (.map #[] 0)).heap.size (w1.alloc (.map #[] 0)) w2) (val : Nat → Int) (id : Nat) :
    SK uR w0 b val [] [id] (.slice (some ⟨g, 0, none⟩) 1 1) (w2.alloc (.cells #[.int .i64 (id : Int)] 3)) := by
  subst hb hg
  have s1 := b1.size
  have hm := HeldIs.made uR val w1
  have ba : Below w1.heap.size w1 (w1.alloc (.map #[] 0)) := by go_grown
  have bb : Below w2.heap.size w2 (w2.alloc (.cells #[.int .i64 (id : Int)] 3)) := by go_grown
  have s2 := b2.size
  simp at s2
  refine ⟨Below.next b1 (Below.next ba (Below.next b2 bb)), (hm.below b2).below bb, s1, ?_⟩
  exact World.ownsRow_lit (base := w0.heap.size) (e := 3) (size := 1) w2 #[.int .i64 (id : Int)] 1 (by omega) (by unfold maxLen; omega) rfl

set_option maxHeartbeats 8000000 in
theorem reckon_u {k : K} {w : World} {N : List Nd} {P : Nat → Prop} {a : Option Addr} {len cap : Nat} {E : List Int} (s : Dg k w N P) (wl : Wl N) (hL : N.length ≤ 150) (hE : Us w a len E) {db eb : Nat}
    (hd : w.cell? ⟨db, 0, none⟩ = some (.pointer (some ⟨k.DB, 0, none⟩))) (he : w.cell? ⟨eb, 0, none⟩ = some (.slice a len cap)) (id : Nat) (hi : id < N.length) :
    Calls Try.prog 27 #[.pointer (some ⟨k.DB, 0, none⟩), .int .i64 id, .func (.func 28) #[] #[.pointer (some ⟨db, 0, none⟩), .pointer (some ⟨eb, 0, none⟩)]] w fun e w' =>
      ∃ mb H, e = .returned (.map (some mb)) ∧ Hid (HeldIs uR w' mb H (fun j => vF N E j)) ∧ Hid (BelL N id H) ∧ Hid (Below w.heap.size w w') := by
  have HS := hid s
  have HW := hid wl
  have HE := hid hE
  have HD := hid hd
  have HEB := hid he
  have GD := hid s.1
  have HI := hid (isN_nat hi)
  have hi2 := hid hi
  have HL := hid hL
  have HB : Hid (∀ j : Nat, j < N.length → Wd64 (vF N E j)) := hid fun j hj => vF_wd wl s.1 E j hj
  have hmm := @run_makeMap Try.prog
  obtain ⟨n1, hn⟩ : ∃ n1, ndA N id = n1 := ⟨_, rfl⟩
  obtain ⟨op, wd, na, nb, nc, nv⟩ := n1
  have HN := hid hn
  clear s wl hE hd he hi hL hn
  go_enter Try.func27, Try.ntmps27
  go_wp2_with (go_at_call 58; with_reducible (refine (node_as (Dg.below HS.out (by go_grown)) (id : Int) HN.out HI.out).mono ?_); rintro e w2 ⟨rfl, b2⟩)
  have K0 : Hid (SK uR w w.heap.size (fun j => vF N E j) [] [id] (.slice (some ⟨w2.heap.size + 1, 0, none⟩) 1 1) ((w2.alloc (.cells #[.int .i64 op, .int .i64 wd, .int .i64 na, .int .i64 nb, .int .i64 nc, .int .u64 nv] 61)).alloc (.cells #[.int .i64 (id : Int)] 3))) :=
    hid (sk_start w w _ (Below.refl _ _) rfl (by simp) (Below.next b2.out (by go_grown)) _ _)
  clear HI HN hmm
  go_loopg [10] (muF N [] [id]) (fun m v wr => ∃ H S, m = muF N H S ∧ Hid (RI N id H S) ∧ Hid (SK uR w w.heap.size (fun j => vF N E j) H S v wr))
  case atStart => exact ⟨[], [id], rfl, hid (RI.start hi2.out), K0⟩
  case round =>
    clear K0 b2
    obtain ⟨H, S0, rfl, hri, hsk⟩ := hrel
    rcases snoc_or S0 with rfl | ⟨S, x, rfl⟩
    · obtain ⟨ao, c, rfl⟩ := hsk.out.nil
      go_wp2_with fail
      go_ret
      exact ⟨_, H, rfl, hid hsk.out.mp, hid hri.out.done, hid hsk.out.be⟩
    · obtain ⟨g, c, rfl, hcx, hc1, hc2⟩ := hsk.out.shape
      obtain ⟨hlH, hlS, hlen⟩ := hri.out.lt HW.out GD.out hi2.out
      have hxl : x < N.length := hlS x (by simp)
      have hsl := hri.out.slen HW.out GD.out hi2.out HL.out
      have hL := HL.out
      simp at hsl
      obtain ⟨m, hm⟩ : ∃ m, S.length = m := ⟨_, rfl⟩
      rw [hm] at hcx hc1 hsl
      have HM := hid hm
      have hm1 : ((m : Int) + 1 - 1) = m := by omega
      have hm2 : m ≤ c := by omega
      have HXL := hid hxl
      have HLN := hid hlen
      cases hx : inF H x
      · have HX := hid hx
        have hlk := uOut hsk.out.mp hx (by omega)
        obtain ⟨n1, hn⟩ : ∃ n1, ndA N x = n1 := ⟨_, rfl⟩
        have HF := hid (GD.out.ft _ (ndA_mem (isN_nat hxl)))
        have HSH := hid (HW.out.shp GD.out hxl)
        have HIX := hid (isN_nat hxl)
        rw [hn] at HF HSH
        have HN := hid hn
        clear hlH hlS hlen hxl hm hx hL hn
        rw [HM.out]
        go_wp2_with (first
          | (go_at_call 58; with_reducible (refine (node_at (Dg.below HS.out hsk.out.be) (x : Int) HN.out HIX.out).mono ?_); rintro e w3 ⟨rfl, b3⟩)
          | (go_at_call 59; with_reducible (refine (parts_any n1 HF.out _).mono ?_); rintro e w5 ⟨ao5, c5, rfl, r5, b5, f5⟩))
        obtain ⟨kb, ko, hk, HQ0⟩ := sq_start hsk.out b3.out b5.out r5.out f5.out
        have HKA := hid (ks_ahead HSH.out)
        have hks3 := ks_len n1
        clear hlk hcx hc1 hc2 hm1 hm2 b3 b5 r5 f5 hsk HIX HF
        revert HQ0
        generalize w3.heap.size + 1 = pb
        generalize w3.heap.size = nb
        intro HQ0
        go_loopw [10, 18, 64] (fun v rd i wq => ∃ q : Nat, q ≤ (ksF n1).length ∧ i = .int .i64 q ∧ rd = .bool (newF H ((ksF n1).take q)).isEmpty ∧ Hid (SQ w w.heap.size (fun j => vF N E j) H (S ++ [x] ++ newF H ((ksF n1).take q)) n1 nb pb kb ko q v wq)) (fun _ _ i _ => (ksF n1).length - (intOf i).toNat)
        case atStart => exact ⟨0, Nat.zero_le _, rfl, rfl, by have h := HQ0; rw [HM.out] at h; simpa [newF] using h⟩
        case round =>
          clear HQ0
          obtain ⟨q, hq, rfl, rfl, HQ⟩ := hrel
          by_cases hlt : q < (ksF n1).length
          · obtain rfl := hk.out (by omega)
            have hlt' : (q : Int) < (ksF n1).length := by omega
            obtain ⟨yn, hyn, hyx, hyl⟩ := part_at HKA.out hlt
            have cy := HQ.out.at hlt
            rw [hyn] at cy
            have HY := hid hyn
            have HYL := hid hyl
            have hq3 : q < 3 := by omega
            have hq3' : (q : Int) < 3 := by omega
            have hxl := HXL.out
            have hL := HL.out
            obtain ⟨u, hu, hf⟩ := HQ.out.cell hq3
            cases hin : inF H yn
            · have hlk2 := uOut HQ.out.sk.mp hin (by omega)
              have HIN := hid hin
              have HLT := hid hlt
              have hsl2 : (S ++ [x] ++ newF H ((ksF n1).take q)).length ≤ 1000000 := by
                have := newF_len H ((ksF n1).take q)
                simp at this ⊢
                have := HM.out
                omega
              have HSL := hid hsl2
              have hbz := HQ.out.sk.be.size
              clear hyn hyl hin hq3 hxl hL hlt hu hf hsl2
              go_wp2_with (at_builtin; refine append_one rfl (.tmp 77) (.tmp 79) rfl w.heap.size _ (S ++ [x] ++ newF H ((ksF n1).take q)) (yn : Int) rfl HQ.out.sk.ow _ rfl rfl HSL.out hbz ?_; intro v6 w6 ow6 gr6 nb6; have Q6 := hid (HQ.out.push HLT.out gr6.out ow6.out nb6.out); have hce := Q6.out.cell (by omega); obtain ⟨u6, hu6, hf6⟩ := hce)
              have hN1 := newF_out (H := H) HYL.out HIN.out
              have Q7 := hid (Q6.out.set HLT.out (by omega) (c := 0) ⟨by omega, by omega⟩ (fun h => by rw [HY.out] at h; simp only [Int.toNat_natCast] at h; rw [HIN.out] at h; cases h))
              go_roundw
              case rel => exact ⟨q + 1, by have := HLT.out; omega, by go_num, by rw [hN1]; simp, by rw [hN1, ← List.append_assoc]; exact Q7⟩
              case measure => simp only [intOf]; omega
            · have hlk2 := uIn HQ.out.sk.mp hin (by omega)
              have HQ2 := hid (HQ.out.set hlt hq3 (HB.out yn (by omega)) (fun _ => by rw [hyn]; simp))
              have HE2 : Hid (newF H ((ksF n1).take (q + 1)) = newF H ((ksF n1).take q)) := hid (newF_in hyl (by simpa using hin))
              clear hyn hyl hin hq3 hxl hL HQ
              go_wp2_with fail
              go_roundw
              case rel => exact ⟨q + 1, by omega, by go_num, by rw [HE2.out], by rw [HE2.out]; exact HQ2⟩
              case measure => simp only [intOf]; omega
          · obtain rfl : q = (ksF n1).length := by omega
            rw [List.take_length] at HQ ⊢
            have HXH := HX
            by_cases hne : newF H (ksF n1) = []
            · rw [hne] at HQ ⊢
              rw [List.append_nil] at HQ
              have HR := hid (hri.out.put HW.out GD.out hi2.out HL.out HX.out (by rw [HN.out]; exact hne))
              obtain ⟨c0, c1, c2, d0, d1, d2, w0, w1, w2', dp⟩ := HQ.out.three
              obtain ⟨s0, s1, s2, s3, s4, s5⟩ := HQ.out.six
              have HV : Hid (meanF N E n1 [c0, c1, c2] = vF N E x) := hid (mean_of HW.out GD.out HXL.out HN.out HKA.out fun j hj _ => dp j hj (by
                have : inF H ((ksF n1).getD j 0).toNat = true := by
                  have := newF_nil hne (k := (ksF n1).getD j 0) (List.mem_of_getElem? (i := j) (by simp [hj]))
                  exact decide_eq_true this
                exact this))
              have hbb := HQ.out.sk.be
              have hdb := hid ((hbb.cell (cell_lt HD.out)).trans HD.out)
              have heb := hid ((hbb.cell (cell_lt HEB.out)).trans HEB.out)
              have HP := hid w0
              have HP1 := hid w1
              have HXB : Hid (x ≤ 1000000) := hid (by have := HXL.out; have := HL.out; omega)
              have HHB : Hid (H.length ≤ 1000000) := hid (by have := HLN.out; have := HL.out; omega)
              have HXI : Hid (x ≤ N.length) := hid (Nat.le_of_lt HXL.out)
              clear hne w0 w1 w2' dp hbb
              go_wp2_with (go_at_call 28; with_reducible (refine (value1_any (Dg.below HS.out HQ.out.sk.be) (HE.out.below HQ.out.sk.be) HXI.out n1 HSH.out c0 c1 c2 HP.out HP1.out HV.out hdb.out heb.out).mono ?_); rintro e w8 ⟨rfl, b8⟩; obtain ⟨w9, hup, hk9⟩ := uput (HQ.out.sk.below b8.out) HX.out HXB.out HHB.out)
              go_roundg (muF N (H ++ [x]) (S ++ [x]))
              case measure => exact HR.out.2
              case rel => exact ⟨H ++ [x], S ++ [x], rfl, hid HR.out.1, hk9⟩
            · have he : (newF H (ksF n1)).isEmpty = false := by simpa using hne
              have HR := hid (hri.out.push HW.out GD.out hi2.out HX.out (by rw [HN.out]; exact hne))
              rw [HN.out] at HR
              rw [he]
              clear hne he
              go_wp2_with fail
              go_roundg (muF N H (S ++ [x] ++ newF H (ksF n1)))
              case measure => exact HR.out.2
              case rel => exact ⟨H, S ++ [x] ++ newF H (ksF n1), rfl, hid HR.out.1, hid HQ.out.sk⟩
      · have hlk := uIn hsk.out.mp hx (by omega)
        have HR := hid (hri.out.pop HW.out GD.out hi2.out hx)
        have HK := hid hsk.out.pop
        rw [HM.out] at HK ⊢
        clear hlH hlS hlen hxl hm hx hL
        go_wp2_with fail
        go_roundg (muF N H S)
        case measure => exact HR.out.2
        case rel => exact ⟨H, S, rfl, hid HR.out.1, HK⟩

end Go.Proofs.Ytbekgejbgmdbdaa
