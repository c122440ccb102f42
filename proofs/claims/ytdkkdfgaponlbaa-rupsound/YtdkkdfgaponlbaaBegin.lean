/-
  begin: all clauses are entered.
-/
import Derived.Test.YtdkkdfgaponlbaaRoom
namespace Go.Proofs.Ytdkkdfgaponlbaa
open Go.RowKit Go.Maps Go.ChangeMaps Go.MapKept
set_option linter.unusedVariables false

/-! ### The keys: all literals and their Nots -/
def lits (L : List (List Int)) (S : List Int) : List Int := (S ++ L.flatten).filter (fun x => decide (0 ≤ x))
def keysOf (L : List (List Int)) (S : List Int) : List Int := (lits L S).flatMap fun x => [x, notF x]

theorem mem_lits {L : List (List Int)} {S : List Int} {x : Int} : x ∈ lits L S ↔ (x ∈ S ∨ ∃ c ∈ L, x ∈ c) ∧ 0 ≤ x := by
  simp only [lits, List.mem_filter, List.mem_append, List.mem_flatten, decide_eq_true_eq]

theorem mem_keys {L : List (List Int)} {S : List Int} {x : Int} : x ∈ keysOf L S ↔ ∃ y ∈ lits L S, x = y ∨ x = notF y := by
  simp [keysOf]

theorem keys_of {L : List (List Int)} {S : List Int} {x : Int} (h : x ∈ lits L S) : x ∈ keysOf L S ∧ notF x ∈ keysOf L S := ⟨mem_keys.2 ⟨x, h, .inl rfl⟩, mem_keys.2 ⟨x, h, .inr rfl⟩⟩

theorem keys_not {L : List (List Int)} {S : List Int} {x : Int} (h : x ∈ keysOf L S) : notF x ∈ keysOf L S := by
  obtain ⟨y, hy, e⟩ := mem_keys.1 h
  have y0 := (mem_lits.1 hy).2
  rcases e with rfl | rfl
  · exact (keys_of hy).2
  · rw [not_not y0]; exact (keys_of hy).1

theorem keys_fit {L : List (List Int)} {S : List Int} (hS : Fit S) (hL : ∀ c ∈ L, Fit c) {x : Int} (h : x ∈ keysOf L S) : 0 ≤ x ∧ x ≤ 9223372036854775807 := by
  obtain ⟨y, hy, e⟩ := mem_keys.1 h
  obtain ⟨hm, y0⟩ := mem_lits.1 hy
  have y1 : y ≤ 9223372036854775807 := by
    rcases hm with hm | ⟨c, hc, hm⟩
    · exact (hS y hm).2
    · exact (hL c hc y hm).2
  rcases e with rfl | rfl
  · exact ⟨y0, y1⟩
  · exact ⟨not_pos y0, not_max y0 y1⟩

theorem flat_len {L : List (List Int)} (h : ∀ c ∈ L, c.length ≤ 1000) : L.flatten.length ≤ L.length * 1000 := by
  induction L with
  | nil => simp
  | cons c L ih =>
    have h1 := ih fun d hd => h d (by simp [hd])
    have h2 := h c (by simp)
    simp only [List.flatten_cons, List.length_append, List.length_cons]; omega

theorem two_len (l : List Int) : (l.flatMap fun x => [x, notF x]).length = 2 * l.length := by
  induction l with
  | nil => simp
  | cons x l ih => simp [List.flatMap_cons, ih]; omega

theorem keys_len {L : List (List Int)} {S : List Int} (hn : L.length ≤ 100) (hs : S.length ≤ 10000) (h : ∀ c ∈ L, c.length ≤ 1000) : (keysOf L S).length ≤ 1000000 := by
  have h1 := flat_len h
  have h2 : (lits L S).length ≤ S.length + L.flatten.length := by
    refine Nat.le_trans (List.length_filter_le _ _) ?_; simp
  rw [keysOf, two_len]; omega

theorem among_keys {k : K} {L : List (List Int)} {S : List Int} (hk : k.Ks = keysOf L S) : (∀ c ∈ L, Among k c) ∧ Among k S := by
  refine ⟨fun c hc x hx x0 => ?_, fun x hx x0 => ?_⟩
  · rw [hk]; exact keys_of (mem_lits.2 ⟨.inr ⟨c, hc, hx⟩, x0⟩)
  · rw [hk]; exact keys_of (mem_lits.2 ⟨.inl hx, x0⟩)

theorem Grid.fit {w : World} {ao : Option Addr} {n cap : Nat} {xss : List (List Int)} (h : Grid w ao n cap xss) : ∀ c ∈ xss, Fit c := by
  intro c hc
  obtain ⟨j, hj, e⟩ := List.mem_iff_getElem.1 hc
  obtain ⟨b, off, a, m, cc, ys, _, _, hy, hr⟩ := h.at (k := j) (by rw [← h.1]; exact hj)
  have := hy.out
  rw [List.getElem?_eq_getElem hj, e] at this
  cases this
  exact hr.out.2.2.2.2.1

/-! ### Nothing is known yet -/
theorem made63 (N : Nat) {x i : Nat} (hx : x < N) (hi : i < 3) : (madeCells #[.bool false, .int .i64 0, .int .i64 0] (N * 3))[x * 3 + i]? = (factV Fa.no)[i]? := by
  have h1 : x * 3 + i < N * 3 := by omega
  have h2 : (x * 3 + i) % 3 = i := by omega
  have h3 : (madeCells #[.bool false, .int .i64 0, .int .i64 0] (N * 3))[x * 3 + i]? = some ((#[Value.bool false, .int .i64 0, .int .i64 0] : Array Value)[i]!) := by
    rw [madeCells, Array.getElem?_map, Array.getElem?_eq_getElem (by simpa using h1)]
    simp [h2]
  rw [h3]
  match i, hi with
  | 0, _ => rfl
  | 1, _ => rfl
  | 2, _ => rfl

theorem made3 (n : Nat) : madeCells #[Value.int .i64 0] n = ((List.replicate n (0 : Int)).map (Value.int .i64)).toArray := by
  apply Array.ext
  · simp [madeCells]
  · intro i h1 h2
    simp [madeCells, Nat.mod_one]

def F0 : Int → Fa := fun _ => Fa.no

theorem en_start {k : K} {L : List (List Int)} {w : World} (ok : KOk k) (hn : k.n ≤ 1000)
    (cl : w.heap[k.C]? = some (.cells #[.slice k.la k.n k.cap, .slice (some ⟨k.OB, 0, none⟩) k.n k.n, .slice none 0 0, .slice (some ⟨k.NB, 0, none⟩) k.N k.N, .map (some k.MB), .slice none 0 0] 57 (0, 0)))
    (op : w.heap[k.OB]? = some (.cells (madeCells #[.int .i64 0] k.n) 3 (0, 0))) (near : w.heap[k.NB]? = some (.cells (madeCells #[.bool false, .int .i64 0, .int .i64 0] (k.N * 3)) 72 (0, 0))) (mp : w.heap[k.MB]? = some (.map #[] 0))
    (be : Below k.w0.heap.size k.w0 w) : En k L 0 [] w F0 (fun _ => none) [] (List.replicate k.n 0) [] (.slice none 0 0) := by
  have fa : Facts k w F0 (fun _ => none) [] := by
    refine ⟨⟨_, near, fun x hx i hi => made63 k.N hx hi⟩, ⟨.map [], ⟨#[], 0, mp, ⟨by simp, stamped_empty 0, by simp⟩, Nat.le_refl _, rfl⟩, fun x => rfl⟩, (fun x b h => by cases h), (fun x y b h => by cases h), fun x _ _ => rfl, List.nodup_nil, (fun x h => by simp at h), (fun x h => by simp at h)⟩
  refine ⟨⟨ok, fa, cl, by rw [op, made3], World.ownsRow_nil _ _ _ _, World.ownsRow_nil _ _ _ _, be⟩, fun y => rfl, fun y _ => ⟨0, [], rfl, Nat.le_refl _, rfl, List.nodup_nil, fun j => ?_⟩, fun y => ⟨?_, ?_⟩, fun j c hj => by omega, fun h => by simp [h, dd], fun j _ hj => by simp [hj], by simp⟩
  · simp [dd]
  · simp [F0, Fa.no]
  · simp [F0, Fa.no, dd]

theorem En.clause {k : K} {L : List (List Int)} {i : Nat} {c : List Int} {w : World} {F : Int → Fa} {M : Int → Option Nat} {ks op : List Int} {us : List (Int × Int)} {uv : Value} (e : En k L i c w F M ks op us uv) (hc : L[i]? = some c) (hl : c.length ≤ 1000) (hi : i < k.n) :
    En k L (i + 1) [] w F M ks op us uv := by
  refine ⟨e.st, e.h, fun y y0 => ?_, fun y => ⟨by have := (e.s y).1; push_cast; omega, ⟨fun h => ?_, fun h => by simp [dd] at h⟩⟩, fun j d hj hd => ?_, fun h => ?_, fun j hj hjn => e.opz j (by omega) hjn, by have := e.ul; simp; omega⟩
  · obtain ⟨p, cs, h1, h2, h3, h4, h5⟩ := e.ch y y0
    refine ⟨p, cs, h1, h2, h3, h4, fun j => ?_⟩
    rw [h5 j]
    constructor
    · rintro (⟨h6, h7⟩ | ⟨rfl, h7⟩)
      · exact .inl ⟨by omega, h7⟩
      · exact .inl ⟨by omega, c, hc, h7⟩
    · rintro (⟨h6, d, hd, h7⟩ | ⟨_, h7⟩)
      · by_cases ej : j = i
        · subst ej; rw [hc] at hd; cases hd; exact .inr ⟨rfl, h7⟩
        · exact .inl ⟨by omega, d, hd, h7⟩
      · simp [dd] at h7
  · have := (e.s y).1; push_cast at h; omega
  · by_cases ej : j = i
    · subst ej; rw [hc] at hd; cases hd; exact e.opi hi
    · exact e.opd j d (by omega) hd
  · rw [e.opz (i + 1) (by omega) h]; simp [dd]

def BeginEnd (w : World) (la : Option Addr) (n cap : Nat) (L : List (List Int)) (S : List Int) (e : Ending) (w' : World) : Prop :=
  ∃ k : K, e = .returned (.pointer (some ⟨k.C, 0, none⟩)) ∧ k.w0 = w ∧ k.la = la ∧ k.n = n ∧ k.cap = cap ∧ k.Ks = keysOf L S ∧ ∃ fst us op, P2 k fst us op [] w' ∧ Uses L fst us ∧ OpOk L op ∧ us.length ≤ 100000000

theorem En.done {k : K} {L : List (List Int)} {w : World} {F : Int → Fa} {M : Int → Option Nat} {ks op : List Int} {us : List (Int × Int)} {uv : Value} (e : En k L L.length [] w F M ks op us uv) (hn : L.length ≤ 1000) : ∃ fst us op, P2 k fst us op [] w ∧ Uses L fst us ∧ OpOk L op ∧ us.length ≤ 100000000 := by
  refine ⟨fun y => (F y).f, us, op, ⟨F, M, ks, uv, _, e.st, fun y => by rw [e.h y]; simp, fun y => rfl, List.nodup_nil, fun y hy => by simp at hy⟩, fun y y0 => ?_, fun j c hc => e.opd j c (List.getElem?_eq_some_iff.1 hc).1 hc, by have := e.ul; simp at this; omega⟩
  obtain ⟨p, cs, h1, h2, h3, h4, h5⟩ := e.ch y y0
  refine ⟨p, cs, h1, h3, h4, fun j => ?_⟩
  rw [h5 j]
  constructor
  · rintro (⟨_, h6⟩ | ⟨_, h6⟩)
    · exact h6
    · simp [dd] at h6
  · rintro ⟨c, hc, h6⟩
    exact .inl ⟨(List.getElem?_eq_some_iff.1 hc).1, c, hc, h6⟩

theorem room_at (w : World) (la : Option Addr) (n cap : Nat) (L : List (List Int)) (gr : Grid w la n cap L) (sa : Option Addr) (sn scap : Nat) (S : List Int) (hr : Row w sa sn scap S) (hn : n ≤ 100) (hs : sn ≤ 10000) (hl : ∀ c ∈ L, c.length ≤ 1000) :
    Calls Try.prog 39 #[.slice la n cap, .slice sa sn scap] w fun e w' => ∃ NB MB N : Nat, e = .returned (.agg #[.slice (some ⟨NB, 0, none⟩) N N, .map (some MB)]) ∧ Hid (N ≤ 1000000 ∧ w.heap.size ≤ NB ∧ w.heap.size ≤ MB) ∧
    Hid (w'.heap[NB]? = some (.cells (madeCells #[.bool false, .int .i64 0, .int .i64 0] (N * 3)) 72 (0, 0)) ∧ w'.heap[MB]? = some (.map #[] 0)) ∧ Hid (Below w.heap.size w w') := by
  refine (room_any w la n cap L gr sa sn scap S hr hn hs hl).mono fun e w' he => ?_
  obtain ⟨NB, MB, N, h1, h2, h3, h4, h5, h6, h7⟩ := he
  exact ⟨NB, MB, N, h1, ⟨h2, h3, h4⟩, ⟨h5, h6⟩, h7⟩

theorem Try.info3z : (Try.prog.info? 3).map (fun i => (i.zero, i.size, i.bytes)) = some (some (.int .i64 0), 1, 8) := by kernel_rfl
theorem make3 (n : Nat) (hn : n ≤ 1000000) (w : World) : (Instr.makeSlice 26 (.int .i64 n) (.int .i64 n)).run Try.prog w = .ok (.slice (some ⟨w.heap.size, 0, none⟩) n n) (w.alloc (.cells (madeCells #[.int .i64 0] n) 3)) := by
  obtain ⟨i0, hi, hz0, hz1, hz2⟩ := info_parts Try.info3z
  have := run_make (P := Try.prog) w 26 3 i0 (.int .i64 0) Try.underlying26 hi hz0 .i64 .i64 n n (by omega) (Int.le_refl _) (by rw [hz2]; omega) (by omega)
  rw [this, hz1]
  simp [Value.cells]

theorem begin_new (w : World) (n : Nat) : Below w.heap.size w (w.alloc (.cells (madeCells #[.int .i64 0] n) 3)).drew := (one_new w _).drew

theorem begin_ok {w : World} {C OB NB MB N : Nat} {la : Option Addr} {n cap : Nat} {L : List (List Int)} {S : List Int} {sa : Option Addr} {sn scap : Nat} (gr : Grid w la n cap L) (hr : Row w sa sn scap S) (hn : n ≤ 100) (hs : sn ≤ 10000) (hl : ∀ c ∈ L, c.length ≤ 1000)
    (h1 : w.heap.size ≤ C) (h2 : w.heap.size ≤ OB) (h3 : w.heap.size ≤ NB) (h4 : w.heap.size ≤ MB) (hN : N ≤ 1000000) : KOk ⟨w, C, OB, NB, MB, N, la, n, cap, keysOf L S⟩ :=
  ⟨h1, h2, h3, h4, hN, keys_len (by rw [gr.1]; exact hn) (by rw [hr.1]; exact hs) hl, by show n ≤ 1000000; omega, fun x hx => keys_fit hr.2.2.2.2.1 gr.fit hx⟩

theorem begin_k1 {w w1 : World} {NB MB N : Nat} {la : Option Addr} {n cap : Nat} {L : List (List Int)} {S : List Int} {sa : Option Addr} {sn scap : Nat} (gr : Grid w la n cap L) (hr : Row w sa sn scap S) (hn : n ≤ 100) (hs : sn ≤ 10000) (hl : ∀ c ∈ L, c.length ≤ 1000)
    (hN : N ≤ 1000000 ∧ (w.alloc (.cells (madeCells #[.int .i64 0] n) 3)).drew.heap.size ≤ NB ∧ (w.alloc (.cells (madeCells #[.int .i64 0] n) 3)).drew.heap.size ≤ MB)
    (hM : w1.heap[NB]? = some (.cells (madeCells #[.bool false, .int .i64 0, .int .i64 0] (N * 3)) 72 (0, 0)) ∧ w1.heap[MB]? = some (.map #[] 0))
    (hb : Below (w.alloc (.cells (madeCells #[.int .i64 0] n) 3)).drew.heap.size (w.alloc (.cells (madeCells #[.int .i64 0] n) 3)).drew w1) :
    En ⟨w, w1.heap.size, w.heap.size, NB, MB, N, la, n, cap, keysOf L S⟩ L 0 []
      (w1.alloc (.cells #[.slice la n cap, .slice (some ⟨w.heap.size, 0, none⟩) n n, .slice none 0 0, .slice (some ⟨NB, 0, none⟩) N N, .map (some MB), .slice none 0 0] 57)) F0 (fun _ => none) [] (List.replicate n 0) [] (.slice none 0 0) := by
  have es : (w.alloc (.cells (madeCells #[.int .i64 0] n) 3)).drew.heap.size = w.heap.size + 1 := by show (w.alloc _).heap.size = _; simp
  rw [es] at hN hb
  have hsz : w.heap.size + 1 ≤ w1.heap.size := by have := hb.size; rw [es] at this; exact this
  have bw : Below w.heap.size w w1 := (begin_new w n).trans (hb.mono (by omega))
  have b1 := one_new w1 (.cells #[.slice la n cap, .slice (some ⟨w.heap.size, 0, none⟩) n n, .slice none 0 0, .slice (some ⟨NB, 0, none⟩) N N, .map (some MB), .slice none 0 0] 57)
  refine en_start (begin_ok gr hr hn hs hl (by omega) (by omega) (by omega) (by omega) hN.1) (by show n ≤ 1000; omega) (new_same w1 _) ?_ ?_ ?_ (bw.trans (b1.mono (by show w.heap.size ≤ _; omega)))
  · show (w1.alloc _).heap[w.heap.size]? = _
    rw [b1.block _ (by omega), hb.block _ (by omega)]; exact new_same w _
  · show (w1.alloc _).heap[NB]? = _
    rw [b1.block _ (blk_lt hM.1)]; exact hM.1
  · show (w1.alloc _).heap[MB]? = _
    rw [b1.block _ (blk_lt hM.2)]; exact hM.2

theorem begin_k2 {w w1 : World} {NB MB N : Nat} {la : Option Addr} {n cap : Nat} {L : List (List Int)} {S : List Int} {sa : Option Addr} {sn scap : Nat} (gr : Grid w la n cap L) (hr : Row w sa sn scap S) (hn : n ≤ 100) (hs : sn ≤ 10000) (hl : ∀ c ∈ L, c.length ≤ 1000)
    (hN : N ≤ 1000000 ∧ w.drew.heap.size ≤ NB ∧ w.drew.heap.size ≤ MB)
    (hM : w1.heap[NB]? = some (.cells (madeCells #[.bool false, .int .i64 0, .int .i64 0] (N * 3)) 72 (0, 0)) ∧ w1.heap[MB]? = some (.map #[] 0)) (hb : Below w.drew.heap.size w.drew w1) :
    En ⟨w, w1.heap.size + 1, w1.heap.size, NB, MB, N, la, n, cap, keysOf L S⟩ L 0 []
      ((w1.alloc (.cells (madeCells #[.int .i64 0] n) 3)).alloc (.cells #[.slice la n cap, .slice (some ⟨w1.heap.size, 0, none⟩) n n, .slice none 0 0, .slice (some ⟨NB, 0, none⟩) N N, .map (some MB), .slice none 0 0] 57)) F0 (fun _ => none) [] (List.replicate n 0) [] (.slice none 0 0) := by
  have es : w.drew.heap.size = w.heap.size := rfl
  rw [es] at hN hb
  have hsz : w.heap.size ≤ w1.heap.size := hb.size
  have bw : Below w.heap.size w w1 := ⟨hb.os, hb.tape, hb.output, hb.size, fun j hj => hb.block j hj⟩
  have e2 : (w1.alloc (.cells (madeCells #[.int .i64 0] n) 3)).heap.size = w1.heap.size + 1 := by simp
  have b1 := one_new w1 (.cells (madeCells #[.int .i64 0] n) 3)
  have b2 := one_new (w1.alloc (.cells (madeCells #[.int .i64 0] n) 3)) (.cells #[.slice la n cap, .slice (some ⟨w1.heap.size, 0, none⟩) n n, .slice none 0 0, .slice (some ⟨NB, 0, none⟩) N N, .map (some MB), .slice none 0 0] 57)
  rw [e2] at b2
  have n2 := new_same (w1.alloc (.cells (madeCells #[.int .i64 0] n) 3)) (.cells #[.slice la n cap, .slice (some ⟨w1.heap.size, 0, none⟩) n n, .slice none 0 0, .slice (some ⟨NB, 0, none⟩) N N, .map (some MB), .slice none 0 0] 57)
  rw [e2] at n2
  refine en_start (begin_ok gr hr hn hs hl (by omega) (by omega) (by omega) (by omega) hN.1) (by show n ≤ 1000; omega) n2 ?_ ?_ ?_ ((bw.trans (b1.mono (by omega))).trans (b2.mono (by show w.heap.size ≤ _; omega)))
  · show ((w1.alloc _).alloc _).heap[w1.heap.size]? = _
    rw [b2.block _ (by omega)]; exact new_same w1 _
  · show ((w1.alloc _).alloc _).heap[NB]? = _
    rw [b2.block _ (by have := blk_lt hM.1; omega), b1.block _ (blk_lt hM.1)]; exact hM.1
  · show ((w1.alloc _).alloc _).heap[MB]? = _
    rw [b2.block _ (by have := blk_lt hM.2; omega), b1.block _ (blk_lt hM.2)]; exact hM.2

/-- All clauses ahead of q are entered. -/
def BeRel (k : K) (L : List (List Int)) (q : Nat) (pre : List Int) (w : World) : Prop := ∃ F M ks op us uv, En k L q pre w F M ks op us uv

theorem enter_at (k : K) (L : List (List Int)) (i : Nat) (pre : List Int) (w : World) (h : BeRel k L i pre w) (x : Int) (hx : 0 ≤ x → x ∈ k.Ks) (hin : i < k.n) (hpl : pre.length ≤ 1000) (hkn : k.n ≤ 1000) :
    Calls Try.prog 40 #[.pointer (some ⟨k.C, 0, none⟩), .int .i64 i, .int .i64 x] w fun e w' => e = .returned (.tuple #[]) ∧ Hid (BeRel k L i (pre ++ [x]) w') := by
  obtain ⟨F, M, ks, op, us, uv, en⟩ := h
  refine (enter_any k L i pre w F M ks op us uv en x hx hin hpl hkn).mono fun e w' he => ?_
  obtain ⟨h1, h2⟩ := he
  exact ⟨h1, h2⟩

theorem BeRel.be {k : K} {L : List (List Int)} {q : Nat} {pre : List Int} {w : World} (h : BeRel k L q pre w) : Below k.w0.heap.size k.w0 w := by
  obtain ⟨F, M, ks, op, us, uv, en⟩ := h; exact en.st.be

set_option maxHeartbeats 1000000 in
theorem begin_any (w : World) (la : Option Addr) (n cap : Nat) (L : List (List Int)) (gr : Grid w la n cap L) (sa : Option Addr) (sn scap : Nat) (S : List Int) (hr : Row w sa sn scap S) (hn : n ≤ 100) (hs : sn ≤ 10000) (hl : ∀ c ∈ L, c.length ≤ 1000) :
    Calls Try.prog 32 #[.slice la n cap, .slice sa sn scap] w fun e w' => BeginEnd w la n cap L S e w' := by
  have HGR := hid gr
  have HR := hid hr
  have HL := hid hl
  have hmk := make3 n (by omega)
  clear gr hr hl
  go_enter Try.func32, Try.ntmps32
  go_wp2
  go_region_with (go_at_call 39; first
    | (with_reducible (refine (room_at _ la n cap L (HGR.out.keep (below_drew _)) sa sn scap S (HR.out.keep (below_drew _)) hn hs HL.out).mono ?_); rintro e w1 ⟨NB, MB, N, rfl, hN, hM, hb⟩)
    | (with_reducible (refine (room_at _ la n cap L (HGR.out.keep (begin_new w n)) sa sn scap S (HR.out.keep (begin_new w n)) hn hs HL.out).mono ?_); rintro e w1 ⟨NB, MB, N, rfl, hN, hM, hb⟩))
  · have HB := hid (show BeRel _ L 0 [] _ from ⟨_, _, _, _, _, _, begin_k1 HGR.out HR.out hn hs HL.out hN.out hM.out hb.out⟩)
    clear hN hM hb
    generalize hk : K.mk w w1.heap.size w.heap.size NB MB N la n cap (keysOf L S) = k at HB
    have kC : k.C = w1.heap.size := by rw [← hk]
    have HK := hid (show k.w0 = w ∧ k.la = la ∧ k.n = n ∧ k.cap = cap ∧ k.Ks = keysOf L S by rw [← hk]; exact ⟨rfl, rfl, rfl, rfl, rfl⟩)
    clear hk
    rw [← kC]
    have KC := hid kC
    clear kC
    go_wp2
    go_loopw [6, 7, 21] (fun _ _ j wr => ∃ q : Nat, q ≤ n ∧ j = .int .i64 q ∧ Hid (BeRel k L q [] wr)) (fun _ _ j _ => n - (intOf j).toNat)
    case atStart => exact ⟨0, Nat.zero_le _, rfl, HB⟩
    case round =>
      clear HB
      obtain ⟨q, hq, rfl, HO⟩ := hrel
      have hbe : Below w.heap.size w wr := by have := HO.out.be; rw [HK.out.1] at this; exact this
      by_cases hlt : q < n
      · obtain ⟨b1, off1, a1, m1, c1, ys, rfl, hc1, hy, hrow⟩ := HGR.out.at hlt
        have hc2 := (hbe.cell (cell_lt hc1)).trans hc1
        have hml : m1 ≤ 1000 := by have := HL.out ys (List.mem_of_getElem? hy.out); have := hrow.out.1; omega
        have HAM : Hid (∀ x ∈ ys, 0 ≤ x → x ∈ k.Ks) := hid (fun x hx x0 => ((among_keys HK.out.2.2.2.2).1 ys (List.mem_of_getElem? hy.out) x hx x0).1)
        have HQN : Hid (q < k.n) := hid (by rw [HK.out.2.2.1]; exact hlt)
        have HKN : Hid (k.n ≤ 1000) := hid (by rw [HK.out.2.2.1]; omega)
        clear hc1 hbe
        go_wp2
        go_loopw [9, 28] (fun _ j wr2 => ∃ r : Nat, r ≤ m1 ∧ j = .int .i64 r ∧ Hid (BeRel k L q (ys.take r) wr2)) (fun _ j _ => m1 - (intOf j).toNat)
        case atStart => exact ⟨0, Nat.zero_le _, rfl, hid (by simpa using HO.out)⟩
        case round =>
          clear HO hc2
          obtain ⟨r, hr2, rfl, hrel2⟩ := hrel
          have hbe2 : Below w.heap.size w wr := by have := hrel2.out.be; rw [HK.out.1] at this; exact this
          by_cases hlt2 : r < m1
          · obtain ⟨b2, off2, y, rfl, hc3, hy2, y0, y1⟩ := (hrow.out.keep hbe2).at hlt2
            have HX : Hid (0 ≤ y → y ∈ k.Ks) := hid (HAM.out y (List.mem_of_getElem? hy2.out))
            have HTL : Hid ((ys.take r).length ≤ 1000) := hid (by simp; omega)
            have HTN : Hid (ys.take (r + 1) = ys.take r ++ [y]) := hid (by rw [List.take_add_one, hy2.out]; rfl)
            clear hbe2
            go_wp2_with (go_at_call 40; with_reducible (refine (enter_at k L q (ys.take r) _ hrel2.out y HX.out HQN.out HTL.out HKN.out).mono ?_); rintro e w6 ⟨rfl, hrel3⟩)
            go_roundw
            case rel => exact ⟨r + 1, by omega, by go_num, hid (by rw [HTN.out]; exact hrel3.out)⟩
            case measure => simp [intOf]; omega
          · have HE : Hid (BeRel k L (q + 1) [] wr) := hid (by
              obtain ⟨F, M, ks, op, us, uv, en⟩ := hrel2.out
              rw [List.take_of_length_le (by rw [hrow.out.1]; omega)] at en
              exact ⟨F, M, ks, op, us, uv, en.clause hy.out (by rw [hrow.out.1]; exact hml) HQN.out⟩)
            clear hbe2
            go_wp2
            go_roundw
            case rel => exact ⟨q + 1, by omega, by go_num, HE⟩
            case measure => simp [intOf]; omega
      · obtain rfl : q = n := by omega
        have HE := hid (show ∃ fst us op, P2 k fst us op [] wr ∧ Uses L fst us ∧ OpOk L op ∧ us.length ≤ 100000000 by
          obtain ⟨F, M, ks, op, us, uv, en⟩ := HO.out
          rw [← HGR.out.1] at en
          exact en.done (by rw [HGR.out.1]; omega))
        clear hbe
        go_wp2
        go_ret
        exact ⟨k, rfl, HK.out.1, HK.out.2.1, HK.out.2.2.1, HK.out.2.2.2.1, HK.out.2.2.2.2, HE.out⟩
  · have HB := hid (show BeRel _ L 0 [] _ from ⟨_, _, _, _, _, _, begin_k2 HGR.out HR.out hn hs HL.out hN.out hM.out hb.out⟩)
    clear hN hM hb
    generalize hk : K.mk w (w1.heap.size + 1) w1.heap.size NB MB N la n cap (keysOf L S) = k at HB
    have kC : k.C = w1.heap.size + 1 := by rw [← hk]
    have HK := hid (show k.w0 = w ∧ k.la = la ∧ k.n = n ∧ k.cap = cap ∧ k.Ks = keysOf L S by rw [← hk]; exact ⟨rfl, rfl, rfl, rfl, rfl⟩)
    clear hk
    rw [← kC]
    have KC := hid kC
    clear kC
    go_wp2
    go_loopw [6, 7, 21] (fun _ _ j wr => ∃ q : Nat, q ≤ n ∧ j = .int .i64 q ∧ Hid (BeRel k L q [] wr)) (fun _ _ j _ => n - (intOf j).toNat)
    case atStart => exact ⟨0, Nat.zero_le _, rfl, HB⟩
    case round =>
      clear HB
      obtain ⟨q, hq, rfl, HO⟩ := hrel
      have hbe : Below w.heap.size w wr := by have := HO.out.be; rw [HK.out.1] at this; exact this
      by_cases hlt : q < n
      · obtain ⟨b1, off1, a1, m1, c1, ys, rfl, hc1, hy, hrow⟩ := HGR.out.at hlt
        have hc2 := (hbe.cell (cell_lt hc1)).trans hc1
        have hml : m1 ≤ 1000 := by have := HL.out ys (List.mem_of_getElem? hy.out); have := hrow.out.1; omega
        have HAM : Hid (∀ x ∈ ys, 0 ≤ x → x ∈ k.Ks) := hid (fun x hx x0 => ((among_keys HK.out.2.2.2.2).1 ys (List.mem_of_getElem? hy.out) x hx x0).1)
        have HQN : Hid (q < k.n) := hid (by rw [HK.out.2.2.1]; exact hlt)
        have HKN : Hid (k.n ≤ 1000) := hid (by rw [HK.out.2.2.1]; omega)
        clear hc1 hbe
        go_wp2
        go_loopw [9, 28] (fun _ j wr2 => ∃ r : Nat, r ≤ m1 ∧ j = .int .i64 r ∧ Hid (BeRel k L q (ys.take r) wr2)) (fun _ j _ => m1 - (intOf j).toNat)
        case atStart => exact ⟨0, Nat.zero_le _, rfl, hid (by simpa using HO.out)⟩
        case round =>
          clear HO hc2
          obtain ⟨r, hr2, rfl, hrel2⟩ := hrel
          have hbe2 : Below w.heap.size w wr := by have := hrel2.out.be; rw [HK.out.1] at this; exact this
          by_cases hlt2 : r < m1
          · obtain ⟨b2, off2, y, rfl, hc3, hy2, y0, y1⟩ := (hrow.out.keep hbe2).at hlt2
            have HX : Hid (0 ≤ y → y ∈ k.Ks) := hid (HAM.out y (List.mem_of_getElem? hy2.out))
            have HTL : Hid ((ys.take r).length ≤ 1000) := hid (by simp; omega)
            have HTN : Hid (ys.take (r + 1) = ys.take r ++ [y]) := hid (by rw [List.take_add_one, hy2.out]; rfl)
            clear hbe2
            go_wp2_with (go_at_call 40; with_reducible (refine (enter_at k L q (ys.take r) _ hrel2.out y HX.out HQN.out HTL.out HKN.out).mono ?_); rintro e w6 ⟨rfl, hrel3⟩)
            go_roundw
            case rel => exact ⟨r + 1, by omega, by go_num, hid (by rw [HTN.out]; exact hrel3.out)⟩
            case measure => simp [intOf]; omega
          · have HE : Hid (BeRel k L (q + 1) [] wr) := hid (by
              obtain ⟨F, M, ks, op, us, uv, en⟩ := hrel2.out
              rw [List.take_of_length_le (by rw [hrow.out.1]; omega)] at en
              exact ⟨F, M, ks, op, us, uv, en.clause hy.out (by rw [hrow.out.1]; exact hml) HQN.out⟩)
            clear hbe2
            go_wp2
            go_roundw
            case rel => exact ⟨q + 1, by omega, by go_num, HE⟩
            case measure => simp [intOf]; omega
      · obtain rfl : q = n := by omega
        have HE := hid (show ∃ fst us op, P2 k fst us op [] wr ∧ Uses L fst us ∧ OpOk L op ∧ us.length ≤ 100000000 by
          obtain ⟨F, M, ks, op, us, uv, en⟩ := HO.out
          rw [← HGR.out.1] at en
          exact en.done (by rw [HGR.out.1]; omega))
        clear hbe
        go_wp2
        go_ret
        exact ⟨k, rfl, HK.out.1, HK.out.2.1, HK.out.2.2.1, HK.out.2.2.2.1, HK.out.2.2.2.2, HE.out⟩

end Go.Proofs.Ytdkkdfgaponlbaa
