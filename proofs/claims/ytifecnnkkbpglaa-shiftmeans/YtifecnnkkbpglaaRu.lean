/-
  The document's Run.
-/
import Derived.Test.YtifecnnkkbpglaaRs
import Derived.Deep.CutRange
namespace Go.Proofs.Ytifecnnkkbpglaa
open Go.RowKit
set_option linter.unusedVariables false

/-- What holds while the literals that hold are put in. -/
def R1 (n : Nat) (val : Nat → Bool) (hs : List Int) (w0 wx : World) (rb vb kb ib q : Nat) : Prop := ∃ K I, RS w0 wx rb vb kb ib n K I ∧ (∀ v, v < n → K v = true → I v = val v) ∧ ∀ h ∈ hs.take q, K (h / 2).toNat = true

/-- What holds while it is looked for more. -/
def R2 (n : Nat) (val : Nat → Bool) (hs : List Int) (cs : List (List Int)) (U q : Nat) (b : Bool) (w0 wx : World) (rb vb kb ib : Nat) : Prop :=
  ∃ K I, RS w0 wx rb vb kb ib n K I ∧ (∀ v, v < n → K v = true → I v = val v) ∧ (∀ h ∈ hs, K (h / 2).toNat = true) ∧ unkK n K ≤ U ∧ (b = true → unkK n K < U) ∧ (b = false → ∀ c ∈ cs.take q, Done K val c)

theorem gtake_mem {α : Type} {xs : List α} {k : Nat} {y x : α} (hy : xs[k]? = some y) (hx : x ∈ xs.take (k + 1)) : x ∈ xs.take k ∨ x = y := by
  rw [List.take_add_one, hy] at hx
  simpa using hx

theorem R1.put {n : Nat} {val : Nat → Bool} {hs : List Int} {w0 wx : World} {rb vb kb ib q k : Nat} {K I : Nat → Bool} {x : Int} (hx : hs[q]? = some x) (h0 : 0 ≤ x) (hk : (x / 2).toNat = k) (hv : hd val x = true)
    (rs : RS w0 wx rb vb kb ib n (upV K k true) (upV I k (!negF x))) (hj : ∀ v, v < n → K v = true → I v = val v) (hin : ∀ h ∈ hs.take q, K (h / 2).toNat = true) : R1 n val hs w0 wx rb vb kb ib (q + 1) := by
  refine ⟨_, _, rs, j_up hj h0 hk hv, fun h hh => ?_⟩
  rcases gtake_mem hx hh with hh | rfl
  · exact up_keep (hin h hh)
  · rw [hk]; simp [upV]

theorem R2.put {n : Nat} {val : Nat → Bool} {hs : List Int} {cs : List (List Int)} {U q' : Nat} {w0 wx : World} {rb vb kb ib k : Nat} {K I : Nat → Bool} {x : Int} (h0 : 0 ≤ x) (hk : (x / 2).toNat = k) (hkn : k < n) (hv : hd val x = true) (hK : K k = false)
    (rs : RS w0 wx rb vb kb ib n (upV K k true) (upV I k (!negF x))) (hj : ∀ v, v < n → K v = true → I v = val v) (hin : ∀ h ∈ hs, K (h / 2).toNat = true) (hU : unkK n K ≤ U) : R2 n val hs cs U q' true w0 wx rb vb kb ib := by
  have := unk_less hkn hK
  exact ⟨_, _, rs, j_up hj h0 hk hv, fun h hh => up_keep (hin h hh), by omega, fun _ => by omega, fun e => by cases e⟩

theorem R2.skip {n : Nat} {val : Nat → Bool} {hs : List Int} {cs : List (List Int)} {U q : Nat} {b : Bool} {w0 w' : World} {rb vb kb ib : Nat} {K I : Nat → Bool} {c : List Int} (hc : cs[q]? = some c) (rs : RS w0 w' rb vb kb ib n K I) (hj : ∀ v, v < n → K v = true → I v = val v) (hin : ∀ h ∈ hs, K (h / 2).toNat = true)
    (hU : unkK n K ≤ U) (hb : b = true → unkK n K < U) (hd0 : b = false → ∀ c ∈ cs.take q, Done K val c) (hd1 : Done K val c) : R2 n val hs cs U (q + 1) b w0 w' rb vb kb ib := by
  refine ⟨K, I, rs, hj, hin, hU, hb, fun e c' hc' => ?_⟩
  rcases gtake_mem hc hc' with hc' | rfl
  · exact hd0 e c' hc'
  · exact hd1

theorem RS.ret {w0 wx : World} {rb vb kb ib n : Nat} {K I : Nat → Bool} (h : RS w0 wx rb vb kb ib n K I) (a b : Value) :
    ((wx.setCell ⟨rb, 0, none⟩ a).setCell ⟨rb, 1, none⟩ b).cell? ⟨rb, 0, none⟩ = some a ∧ ((wx.setCell ⟨rb, 0, none⟩ a).setCell ⟨rb, 1, none⟩ b).cell? ⟨rb, 1, none⟩ = some b ∧ Vs ((wx.setCell ⟨rb, 0, none⟩ a).setCell ⟨rb, 1, none⟩ b) kb ib n K I ∧ Below w0.heap.size w0 ((wx.setCell ⟨rb, 0, none⟩ a).setCell ⟨rb, 1, none⟩ b) := by
  obtain ⟨ck, ek⟩ := h.k.typ
  obtain ⟨ci, ei⟩ := h.i.typ
  obtain ⟨c0, c1, er⟩ := h.r
  have s1 := set_same (o := 0) er a
  have s2 := set_same (o := 1) s1 b
  have n1 : kb ≠ rb := fun e => blk_ne ek er (by decide) e
  have n2 : ib ≠ rb := fun e => blk_ne ei er (by decide) e
  refine ⟨by rw [cell_of s2]; simp, by rw [cell_of s2]; simp, fun i hi => ?_, (h.be.setCell h.lo.1 _).setCell h.lo.1 _⟩
  have q1 : ((wx.setCell ⟨rb, 0, none⟩ a).setCell ⟨rb, 1, none⟩ b).heap[kb]? = wx.heap[kb]? := by rw [Below.heap_setCell _ _ _ _ n1, Below.heap_setCell _ _ _ _ n1]
  have q2 : ((wx.setCell ⟨rb, 0, none⟩ a).setCell ⟨rb, 1, none⟩ b).heap[ib]? = wx.heap[ib]? := by rw [Below.heap_setCell _ _ _ _ n2, Below.heap_setCell _ _ _ _ n2]
  exact ⟨(World.cell?_of_block (w := wx) q1).trans (h.k.cell hi), (World.cell?_of_block (w := wx) q2).trans (h.i.cell hi)⟩

theorem Vs.congr {w : World} {kb ib n : Nat} {K I val : Nat → Bool} (h : Vs w kb ib n K I) (e : ∀ v, v < n → K v = true ∧ I v = val v) : Vs w kb ib n (fun _ => true) val := fun i hi => by
  obtain ⟨h1, h2⟩ := h i hi
  obtain ⟨e1, e2⟩ := e i hi
  exact ⟨by rw [h1, e1], by rw [h2, e2]⟩

def bitV : Value → Nat
  | .bool true => 1
  | _ => 0

theorem wrap_half {x : Int} {k : Nat} (h0 : 0 ≤ x) (hk : x / 2 = k) (h1 : x ≤ 9223372036854775807) : IntKind.i64.wrap (x.tdiv 2) = (k : Int) := by
  rw [Int.tdiv_eq_ediv_of_nonneg h0, hk]
  exact IntWalk.i64_in _ (by omega)

set_option maxHeartbeats 8000000 in
theorem run_any (w : World) (n : Nat) (hn : n ≤ 10000) (ao : Option Addr) (m cap : Nat) (hs : List Int) (hr : Row w ao m cap hs) (go_ : Option Addr) (kk gc : Nat) (cs : List (List Int)) (hg : Grid w go_ kk gc cs)
    (val : Nat → Bool) (is : List Int) (g : Good n cs val is) (hh : ∀ h ∈ hs, rng n h ∧ hd val h = true) (hi : ∀ x ∈ is, ∃ h ∈ hs, (h / 2).toNat = (x / 2).toNat) :
    Calls Try.prog 25 #[.int .i64 n, .slice ao m cap, .slice go_ kk gc] w fun e w' => ∃ kb ib, e = .returned (.tuple #[.agg #[.slice (some ⟨kb, 0, none⟩) n n, .slice (some ⟨ib, 0, none⟩) n n], .bool true]) ∧ Hid (Vs w' kb ib n (fun _ => true) val) ∧ Hid (Below w.heap.size w w') := by
  have hmk := makeB n (by omega)
  have HR := hid hr
  have HG := hid hg
  have HGd := hid g
  have HH := hid hh
  have HI := hid hi
  have hm := hr.max
  have hkm := hg.max
  clear hr hg g hh hi
  go_enter Try.func25, Try.ntmps25
  go_upto_region 1 with fail
  go_cut [8] from 17 to 21 (fun v wx => ∃ vb kb ib : Nat, v = .pointer (some ⟨vb, 0, none⟩) ∧ Hid (RS w wx w.heap.size vb kb ib n (fun _ => false) (fun _ => false)))
  case first =>
    go_region
    all_goals go_wp2_with fail
    all_goals go_meet
    all_goals obtain ⟨e0, e1, e2, e3⟩ := push4 w _ _ _ _
    all_goals exact ⟨_, _, _, rfl, hid ⟨by go_grown, ⟨_, _, e0⟩, by first | exact e1 | exact e2 | exact e3, Bl.new (by first | exact e1 | exact e2 | exact e3), Bl.new (by first | exact e1 | exact e2 | exact e3), by omega, by omega, by refine ⟨?_, ?_, ?_, ?_⟩ <;> omega⟩⟩
  case rest =>
    obtain ⟨vb, kb, ib, rfl, hrs⟩ := hcut
    clear hmk
    have HR1 : Hid (R1 n val hs w wc w.heap.size vb kb ib 0) := hid ⟨_, _, hrs.out, (fun v _ h => nomatch h), (fun h hh => by simp at hh)⟩
    clear hrs
    go_wp2
    go_loopw [9, 10, 11, 12] (fun i _ _ _ wr => ∃ q : Nat, q ≤ m ∧ i = .int .i64 q ∧ Hid (R1 n val hs w wr w.heap.size vb kb ib q)) (fun i _ _ _ _ => m - (intOf i).toNat)
    case atStart => exact ⟨0, Nat.zero_le _, rfl, HR1⟩
    case round =>
      clear HR1
      obtain ⟨q, hq, rfl, h1⟩ := hrel
      by_cases hlt : q < m
      · have hlt' : (q : Int) < m := by omega
        obtain ⟨K, I, rs, hj, hin⟩ := h1.out
        have RSH := hid rs
        have HJ := hid hj
        have HIN := hid hin
        have v0 := rs.v0
        have v1 := rs.v1
        obtain ⟨x, hx⟩ : ∃ x, hs[q]? = some x := ⟨hs[q]'(by rw [HR.out.1]; exact hlt), by simp⟩
        obtain ⟨hrx, hdx⟩ := HH.out x (List.mem_of_getElem? hx)
        obtain ⟨b, off, rfl, hc, _⟩ := (HR.out.keep rs.be).two hlt hlt hx hx
        have HX := hid hx
        have x1 := (rng_fit hrx hn).2
        have ho : okF n x = true := okF_rng.2 hrx
        obtain ⟨k, hk⟩ : ∃ k : Nat, x / 2 = k := ⟨(x / 2).toNat, by unfold rng at hrx; omega⟩
        have hkn : k < n := by unfold rng at hrx; omega
        have hkn' : (k : Int) < n := by omega
        have k0 : (0 : Int) ≤ k := by omega
        have hx0 : ¬ x < 0 := by unfold rng at hrx; omega
        have e2 : (x / 2).toNat = k := by omega
        have HE := hid e2
        have HDX := hid hdx
        have HX0 := hid hrx.1
        cases hK : K k
        · have hkn2 : knF n K x = false := by simp [knF, e2, hK, ho]
          have his : isF n K I x = false := by simp [isF, hkn2]
          clear rs hj hin hx hrx hdx hK e2
          go_wp2_with (first
            | (go_at_call 45; with_reducible (refine (fits_any _ kb ib n hn x x1).mono ?_); rintro e w1 ⟨rfl, hb1⟩; rw [ho]; have r1 := hid (RSH.out.below hb1.out); have v2 := r1.out.v0; have v3 := r1.out.v1)
            | (go_at_call 46; with_reducible (refine (holds_any _ kb ib n K I r1.out.vs hn x x1).mono ?_); rintro e w2 ⟨rfl, hb2⟩; rw [his, hkn2]; have r2 := hid (r1.out.below hb2.out); have v4 := r2.out.v0; have v5 := r2.out.v1; have f4 := r2.out.k.frozen k; have c4 := r2.out.k.cell hkn; have r3 := hid (r2.out.setk k true); have v6 := r3.out.v1; have f6 := r3.out.i.frozen k; have c6 := r3.out.i.cell hkn))
          generalize w2.setCell ⟨kb, k, none⟩ (.bool true) = w3 at r3 v6 f6 c6 ⊢
          have wt : IntKind.i64.wrap (x.tdiv 2) = (k : Int) := wrap_half HX0.out hk x1
          clear r2 v4 v5 f4 c4 r1 v2 v3 v0 v1 hc RSH h1
          go_region_with (go_at_call 47; with_reducible (refine (rneg_any x _ x1).mono ?_); rintro e w7 ⟨rfl, rfl⟩)
          all_goals have r4 := hid (r3.out.seti k (!negF x)).drew
          all_goals go_wp2
          all_goals go_roundw
          all_goals first
            | (simp only [intOf]; omega)
            | exact ⟨q + 1, by omega, by go_num, hid (R1.put HX.out HX0.out HE.out HDX.out r4.out HJ.out HIN.out)⟩
        · have hkn2 : knF n K x = true := by simp [knF, e2, hK, ho]
          have his : isF n K I x = true := by rw [is_hd hrx hj (by rw [e2]; exact hK)]; exact hdx
          clear rs hj hin hx hrx hdx hK e2
          go_wp2_with (first
            | (go_at_call 45; with_reducible (refine (fits_any _ kb ib n hn x x1).mono ?_); rintro e w1 ⟨rfl, hb1⟩; rw [ho]; have r1 := hid (RSH.out.below hb1.out); have v2 := r1.out.v0; have v3 := r1.out.v1)
            | (go_at_call 46; with_reducible (refine (holds_any _ kb ib n K I r1.out.vs hn x x1).mono ?_); rintro e w2 ⟨rfl, hb2⟩; rw [his, hkn2]; have r2 := hid (r1.out.below hb2.out); have v4 := r2.out.v0; have v5 := r2.out.v1; have f4 := r2.out.k.frozen k; have c4 := r2.out.k.cell hkn; have r3 := hid (r2.out.setk k true); have v6 := r3.out.v1; have f6 := r3.out.i.frozen k; have c6 := r3.out.i.cell hkn))
          generalize w2.setCell ⟨kb, k, none⟩ (.bool true) = w3 at r3 v6 f6 c6 ⊢
          have wt : IntKind.i64.wrap (x.tdiv 2) = (k : Int) := wrap_half HX0.out hk x1
          clear r2 v4 v5 f4 c4 r1 v2 v3 v0 v1 hc RSH h1
          go_region_with (go_at_call 47; with_reducible (refine (rneg_any x _ x1).mono ?_); rintro e w7 ⟨rfl, rfl⟩)
          all_goals have r4 := hid (r3.out.seti k (!negF x)).drew
          all_goals go_wp2
          all_goals go_roundw
          all_goals first
            | (simp only [intOf]; omega)
            | exact ⟨q + 1, by omega, by go_num, hid (R1.put HX.out HX0.out HE.out HDX.out r4.out HJ.out HIN.out)⟩
      · have HR2 : Hid (∃ K I, RS w wr w.heap.size vb kb ib n K I ∧ (∀ v, v < n → K v = true → I v = val v) ∧ (∀ h ∈ hs, K (h / 2).toNat = true) ∧ (true = false → ∀ c ∈ cs, Done K val c)) := hid (by
          obtain ⟨K, I, rs, hj, hin⟩ := h1.out
          rw [List.take_of_length_le (by rw [HR.out.1]; omega)] at hin
          exact ⟨K, I, rs, hj, hin, (fun e => nomatch e)⟩)
        clear h1
        go_wp2
        go_loopw [13, 14, 15, 16] (fun a _ _ _ wx => ∃ b : Bool, a = .bool b ∧ Hid (∃ K I, RS w wx w.heap.size vb kb ib n K I ∧ (∀ v, v < n → K v = true → I v = val v) ∧ (∀ h ∈ hs, K (h / 2).toNat = true) ∧ (b = false → ∀ c ∈ cs, Done K val c))) (fun a _ _ _ wx => 2 * unkW wx kb n + bitV a)
        case atStart => exact ⟨true, rfl, HR2⟩
        case round =>
          clear HR2
          obtain ⟨b, rfl, h2⟩ := hrel
          cases b
          · have HK : Hid (∃ K I, RS w wr w.heap.size vb kb ib n K I ∧ ∀ v, v < n → K v = true ∧ I v = val v) := hid (by
              obtain ⟨K, I, rs, hj, hin, hdn⟩ := h2.out
              have hall := HGd.out.all (K := K) (fun x hx => by
                obtain ⟨h, hh, e⟩ := HI.out x hx
                rw [← e]; exact hin h hh) (hdn rfl)
              exact ⟨K, I, rs, fun v hv => ⟨hall v hv, hj v hv (hall v hv)⟩⟩)
            obtain ⟨K, I, rs, hkv⟩ := HK.out
            have RSH := hid rs
            have HKV := hid hkv
            have v0 := rs.v0
            have v1 := rs.v1
            have f0 := rs.rf 0
            have f1 := rs.rf 1
            obtain ⟨c0, c1, e0, e1⟩ := rs.rc
            clear rs hkv h2 HK
            go_wp2
            obtain ⟨g0, g1, hvs, hbe⟩ := RSH.out.ret (.slice (some ⟨kb, 0, none⟩) n n) (.slice (some ⟨ib, 0, none⟩) n n)
            generalize (wr.setCell ⟨w.heap.size, 0, none⟩ (.slice (some ⟨kb, 0, none⟩) n n)).setCell ⟨w.heap.size, 1, none⟩ (.slice (some ⟨ib, 0, none⟩) n n) = wy at g0 g1 hvs hbe ⊢
            refine bodyPost_ret (v := .tuple #[.agg #[.slice (some ⟨kb, 0, none⟩) n n, .slice (some ⟨ib, 0, none⟩) n n], .bool true]) (by simp [results, Try.results25, go_sem, g0, g1]) rfl ?_
            exact ⟨kb, ib, rfl, hid (hvs.congr HKV.out), hid hbe⟩
          · obtain ⟨K, I, rs, hj, hin, _⟩ := h2.out
            obtain ⟨U, hU⟩ : ∃ U, U = unkK n K := ⟨_, rfl⟩
            have HU : Hid (unkW wr kb n = U) := hid (by rw [hU]; exact unk_eq rs)
            have HR3 : Hid (R2 n val hs cs U 0 false w wr w.heap.size vb kb ib) := hid ⟨K, I, rs, hj, hin, by omega, (fun e => nomatch e), (fun _ c hc => by simp at hc)⟩
            clear rs hj hin h2 hU
            go_wp2
            go_loopw [13, 14, 15, 16] (fun a i _ _ wx => ∃ q : Nat, q ≤ kk ∧ i = .int .i64 q ∧ ∃ b : Bool, a = .bool b ∧ Hid (R2 n val hs cs U q b w wx w.heap.size vb kb ib)) (fun _ i _ _ _ => kk - (intOf i).toNat)
            case atStart => exact ⟨0, Nat.zero_le _, rfl, false, rfl, HR3⟩
            case round =>
              clear HR3
              obtain ⟨q, hq, rfl, b2, rfl, h3⟩ := hrel
              by_cases hlt : q < kk
              · have hlt' : (q : Int) < kk := by omega
                have q0 : (0 : Int) ≤ q := by omega
                obtain ⟨K, I, rs, hj, hin, hUl, hbt, hbf⟩ := h3.out
                have RSH := hid rs
                have HJ := hid hj
                have HIN := hid hin
                have HUL := hid hUl
                have HBT := hid hbt
                have HBF := hid hbf
                obtain ⟨gb, off, ca, cm, cc, ys, rfl, hc, hy, hrow⟩ := (HG.out.keep rs.be).at hlt
                obtain ⟨hyr, hys⟩ := HGd.out.sat ys (List.mem_of_getElem? hy.out)
                have HYR := hid hyr
                have HYS := hid hys
                have S3 : Hid (∀ W, Below wr.heap.size wr W → W.cell? ⟨vb, 0, none⟩ = some (.slice (some ⟨kb, 0, none⟩) n n) ∧ W.cell? ⟨vb, 1, none⟩ = some (.slice (some ⟨ib, 0, none⟩) n n) ∧ W.cell? ⟨gb, off + q, none⟩ = some (.slice ca cm cc)) := hid (fun W b => ⟨(RSH.out.below b).v0, (RSH.out.below b).v1, (b.cell (cell_lt hc)).trans hc⟩)
                clear rs hj hin hUl hbt hbf hyr hys h3
                go_wp2
                go_region_held3 (fun W => W.cell? ⟨vb, 0, none⟩ = some (.slice (some ⟨kb, 0, none⟩) n n) ∧ W.cell? ⟨vb, 1, none⟩ = some (.slice (some ⟨ib, 0, none⟩) n n) ∧ W.cell? ⟨gb, off + q, none⟩ = some (.slice ca cm cc)) (first | exact S3.out _ (below_drew _) | exact S3.out _ (Below.next (below_drew _) b5.out)) (first
                  | (go_at_call 48; with_reducible (refine (left_any _ kb ib n K I val (RSH.out.below (below_drew _)).vs hn ca cm cc ys (hrow.out.keep (below_drew _)) HYR.out HJ.out HYS.out).mono ?_); rintro e w5 ⟨z, rfl, hz, b5⟩))
                have RS5 := hid ((RSH.out.below (below_drew _)).below b5.out)
                clear S3 hc RSH
                have v4 := RS5.out.v0
                have v5 := RS5.out.v1
                rcases hz.out with ⟨rfl, hdn⟩ | ⟨rz, kz, vz⟩
                · have HDN := hid hdn
                  clear hdn
                  go_wp2
                  go_roundw
                  case rel => exact ⟨q + 1, by omega, by go_num, b2, rfl, hid (R2.skip hy.out RS5.out HJ.out HIN.out HUL.out HBT.out HBF.out HDN.out)⟩
                  case measure => simp only [intOf]; omega
                · obtain ⟨k, hk⟩ : ∃ k : Nat, z / 2 = k := ⟨(z / 2).toNat, by unfold rng at rz; omega⟩
                  have hkn : k < n := by unfold rng at rz; omega
                  have hkn' : (k : Int) < n := by omega
                  have k0 : (0 : Int) ≤ k := by omega
                  have hz0 : ¬ z < 0 := by unfold rng at rz; omega
                  have hz1 : (0 : Int) ≤ z := by omega
                  have e2 : (z / 2).toNat = k := by omega
                  have x1 := (rng_fit rz hn).2
                  have HE := hid e2
                  have HZ0 := hid hz1
                  have HVZ := hid vz
                  have HKZ : Hid (K k = false) := hid (by rw [← e2]; exact kz)
                  have f4 := RS5.out.k.frozen k
                  have c4 := RS5.out.k.cell hkn
                  have r3 := hid (RS5.out.setk k true)
                  have v6 := r3.out.v1
                  have f6 := r3.out.i.frozen k
                  have c6 := r3.out.i.cell hkn
                  have wt : IntKind.i64.wrap (z.tdiv 2) = (k : Int) := wrap_half HZ0.out hk x1
                  clear rz kz vz e2 hz
                  go_wp2
                  generalize w5.setCell ⟨kb, k, none⟩ (.bool true) = w6 at r3 v6 f6 c6 ⊢
                  clear v4 v5 f4 c4 RS5
                  go_region_with (go_at_call 47; with_reducible (refine (rneg_any z _ x1).mono ?_); rintro e w7 ⟨rfl, rfl⟩)
                  all_goals have r4 := hid (r3.out.seti k (!negF z)).drew
                  all_goals go_wp2
                  all_goals go_roundw
                  all_goals first
                    | (simp only [intOf]; omega)
                    | exact ⟨q + 1, by omega, by go_num, true, rfl, hid (R2.put HZ0.out HE.out hkn HVZ.out HKZ.out r4.out HJ.out HIN.out HUL.out)⟩
              · have hqk : q = kk := by omega
                subst hqk
                go_wp2
                go_roundw
                case rel =>
                  refine ⟨b2, rfl, hid ?_⟩
                  obtain ⟨K2, I2, rs, hj, hin, hUl, hbt, hbf⟩ := h3.out
                  exact ⟨K2, I2, rs, hj, hin, fun e c hc => hbf e c (by rw [List.take_of_length_le (by rw [HG.out.1]; exact Nat.le_refl _)]; exact hc)⟩
                case measure =>
                  obtain ⟨K2, I2, rs, hj, hin, hUl, hbt, hbf⟩ := h3.out
                  have e1 := unk_eq rs
                  have e2 := HU.out
                  rw [e1, e2]
                  cases b2
                  · simp only [bitV]; omega
                  · have := hbt rfl
                    simp only [bitV]; omega

end Go.Proofs.Ytifecnnkkbpglaa
