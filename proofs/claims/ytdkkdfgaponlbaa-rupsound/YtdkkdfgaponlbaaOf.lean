/-
  of: where the fact of a literal lies.
-/
import Derived.Test.YtdkkdfgaponlbaaMem
import Derived.Deep.RegionWith
namespace Go.Proofs.Ytdkkdfgaponlbaa
open Go.RowKit Go.Maps
set_option linter.unusedVariables false

theorem law3 : Keyed Try.prog 3 := int_keyed Try.underlying3
theorem zero60 (w : World) : (zeroValue 69).run Try.prog w = .ok (.pointer none) w := by kernel_rfl

theorem wf_of {x : Int} (h0 : -9223372036854775808 ≤ x) (h1 : x ≤ 9223372036854775807) : (Lit.int .i64 x).wf = true := by
  simp [Lit.wf, IntKind.min, IntKind.max, IntKind.signed, IntKind.bits]; omega

theorem Facts.look {k : K} {w : World} {F : Int → Fa} {M : Int → Option Nat} {ks : List Int} (h : Facts k w F M ks) {x : Int} (h0 : 0 ≤ x) (h1 : x ≤ 9223372036854775807) :
    (Instr.lookup 53 (.map (some k.MB)) (.int .i64 x) false).run Try.prog w = .ok (.pointer ((M x).map fun b => ⟨b, 0, none⟩)) w := by
  obtain ⟨D, ho, hd⟩ := h.map
  obtain ⟨v, ps, hr, hv⟩ := ho.lookup law3 Try.underlying53 (zero60 w) (zd := .held none) (zp := []) rfl (keyOf_int_mk Try.underlying3 (wf_of (by omega) h1))
  rw [hd x] at hv
  rw [hr]
  cases v <;> simp [ptrElem] at hv
  rw [hv.1]

theorem Facts.made {k : K} {w : World} {F : Int → Fa} {M : Int → Option Nat} {ks : List Int} (ok : KOk k) (h : Facts k w F M ks) {x : Int} (hx : x ∈ k.Ks) (hn : (k.N : Int) ≤ x) (hM : M x = none) {o : Nat → Nat} :
    ∃ D, (w.alloc (.cells #[.bool false, .int .i64 0, .int .i64 0] 72)).ownsMap Try.prog 3 ptrElem k.MB ks.length D ∧ keyOf Try.prog 3 (.int .i64 x) = some (.int .i64 x) ∧ ks.length < maxLen ∧
      ∀ w', w'.ownsMap Try.prog 3 ptrElem k.MB (ks.length + 1) (D.put (.int .i64 x) (.held (some ⟨w.heap.size, 0, none⟩))) → (w.alloc (.cells #[.bool false, .int .i64 0, .int .i64 0] 72)).grownBy w' (some k.MB) →
        Facts k w' F (fun y => if y = x then some w.heap.size else M y) (x :: ks) ∧ w.grownBy w' (some k.MB) := by
  obtain ⟨D, ho, hd⟩ := h.map
  have hw := wf_of (x := x) (by have := (ok.Kn x hx).1; omega) (ok.Kn x hx).2
  refine ⟨D, ho.alloc _, keyOf_int_mk Try.underlying3 hw, ?_, fun w' ho' g => ?_⟩
  · have := len_sub h.nod h.sub; have := ok.keys; unfold maxLen; omega
  have g' : w.grownBy w' (some k.MB) := grown_two (grown_new w _ _) g
  have hmlt := h.mlt
  have hnew : w'.heap[w.heap.size]? = some (.cells #[.bool false, .int .i64 0, .int .i64 0] 72) := by
    rw [g.block _ (by simp) (fun e => by have := Option.some.inj e; omega)]; exact new_same w _
  refine ⟨⟨?_, ⟨_, ho', fun y => ?_⟩, ?_, ?_, ?_, ?_, ?_, ?_⟩, g'⟩
  · obtain ⟨arr, h1, h2⟩ := h.near
    refine ⟨arr, ?_, h2⟩
    rw [g'.block _ (blk_lt h1) (fun e => by
      obtain ⟨es, clock, hb, _⟩ := ho
      rw [Option.some.inj e] at h1; rw [h1] at hb; simp at hb)]
    exact h1
  · by_cases e : y = x
    · subst e
      rw [atKey_put_same ho.isMap (by trivial)]
      simp
    · rw [atKey_put_other (by simpa using e), hd y, if_neg e]
  · intro y b hy
    by_cases e : y = x
    · subst e
      simp only [if_true] at hy
      cases hy
      obtain ⟨arr, h1, h2⟩ := h.near
      refine ⟨blk_lt h1, hn, ?_⟩
      rw [h.zero y hn hM]; exact hnew
    · simp only [if_neg e] at hy
      obtain ⟨q1, q2, q3⟩ := h.far y b hy
      refine ⟨q1, q2, ?_⟩
      rw [g'.block _ (blk_lt q3) (fun e => by
        obtain ⟨es, clock, hb, _⟩ := ho
        rw [Option.some.inj e] at q3; rw [q3] at hb; simp at hb)]
      exact q3
  · intro y z b hy hz
    by_cases e : y = x <;> by_cases e2 : z = x
    · rw [e, e2]
    · simp only [if_pos e] at hy; simp only [if_neg e2] at hz
      cases hy; have := blk_lt (h.far z _ hz).2.2; omega
    · simp only [if_neg e] at hy; simp only [if_pos e2] at hz
      cases hz; have := blk_lt (h.far y _ hy).2.2; omega
    · simp only [if_neg e] at hy; simp only [if_neg e2] at hz
      exact h.inj y z b hy hz
  · intro y hy hy2
    by_cases e : y = x
    · simp [e] at hy2
    · simp only [if_neg e] at hy2; exact h.zero y hy hy2
  · rw [List.nodup_cons]
    refine ⟨fun hk => ?_, h.nod⟩
    obtain ⟨b, hb⟩ := h.all x hk
    rw [hM] at hb; cases hb
  · intro y hy
    rcases List.mem_cons.1 hy with rfl | hy
    · exact hx
    · exact h.sub y hy
  · intro y hy
    by_cases e : y = x
    · exact ⟨w.heap.size, by simp [e]⟩
    · rcases List.mem_cons.1 hy with hy | hy
      · exact absurd hy e
      · obtain ⟨b, hb⟩ := h.all y hy; exact ⟨b, by simp [e, hb]⟩

section
variable {k : K} {w : World} {F : Int → Fa} {M : Int → Option Nat} {ks : List Int} {op : List Int} {us : List (Int × Int)} {uv : Value} {H : List Int} {hv : Value}

theorem St.made {w' : World} {M' : Int → Option Nat} {ks' : List Int} (s : St k w F M ks op us uv H hv) (g : w.grownBy w' (some k.MB)) (fa : Facts k w' F M' ks') : St k w' F M' ks' op us uv H hv := by
  refine s.facts g (fun c T fr h => ?_) s.ok.hM fa
  obtain ⟨D, ⟨es, clock, hb, _⟩, _⟩ := s.fa.map
  rw [hb] at h; simp at h

def OfEnd (k : K) (F : Int → Fa) (op : List Int) (us : List (Int × Int)) (uv : Value) (H : List Int) (hv : Value) (x : Int) (e : Ending) (w' : World) : Prop :=
  ∃ b o M' ks', e = .returned (.pointer (some ⟨b, o, none⟩)) ∧ Hid (St k w' F M' ks' op us uv H hv) ∧ Hid (At k M' x b o)

set_option maxHeartbeats 1000000 in
theorem of_any (s : St k w F M ks op us uv H hv) (x : Int) (hx : x ∈ k.Ks) :
    Calls Try.prog 51 #[.pointer (some ⟨k.C, 3, none⟩), .int .i64 x] w fun e w' => OfEnd k F op us uv H hv x e w' := by
  obtain ⟨x0, x1⟩ := s.ok.Kn x hx
  obtain ⟨y, rfl⟩ := Int.eq_ofNat_of_zero_le x0
  have c3 := s.c3
  have c4 := s.c4
  have HS := hid s
  have hN := s.ok.near
  have HX := hid hx
  have look := s.fa.look x0 x1
  generalize hmn : k.N = n at *
  generalize hmc : k.C = C at *
  generalize hmm : k.MB = B at *
  generalize hnb : k.NB = NB at *
  have e1 := hid hmn
  have e2 := hid hmc
  have e3 := hid hmm
  have e4 := hid hnb
  clear hmn hmc hmm hnb s hx x0
  by_cases h : y < n
  · have h' : (y : Int) < n := by omega
    clear look c4
    go_enter Try.func51, Try.ntmps51
    go_wp2
    go_ret
    exact ⟨NB, y * 3, M, ks, rfl, HS, .inl ⟨by rw [e1.out]; omega, e4.out.symm, by simp⟩⟩
  · have h' : ¬ (y : Int) < n := by omega
    rcases hm : M (y : Int) with _ | b
    · rw [hm] at look
      simp only [Option.map_none] at look
      obtain ⟨D, ho, hk, hl, hnext⟩ := HS.out.fa.made HS.out.ok HX.out (by rw [e1.out]; omega) hm (o := id)
      rw [e3.out] at ho hnext
      have HO := hid ho
      have HL := hid hl
      have HK := hid hk
      have HF := hid hnext
      have c4b : (w.alloc (.cells #[.bool false, .int .i64 0, .int .i64 0] 72)).cell? ⟨C, 4, none⟩ = some (.map (some B)) := by
        have := (HS.out.grown (grown_new w (.cells #[.bool false, .int .i64 0, .int .i64 0] 72) none)).c4
        rw [e2.out, e3.out] at this; exact this
      clear ho hl hk hnext hm
      go_enter Try.func51, Try.ntmps51
      go_wp2_with (at_mapUpdate; refine wpList_mapUpdate_own _ rfl _ _ _ 53 rfl 3 69 law3 Try.underlying53 ptrElem B ks.length D rfl HO.out HL.out _ _ (.int .i64 (y : Int)) rfl rfl HK.out (.held (some ⟨w.heap.size, 0, none⟩)) [] rfl ?_; intro w2 ho2 hg2; have HH := hid (HF.out w2 ho2 hg2); clear ho2 hg2)
      go_ret
      obtain ⟨f2, g2⟩ := HH.out
      exact ⟨w.heap.size, 0, _, _, rfl, HS.out.made (by rw [e3.out]; exact g2) f2, .inr ⟨by rw [e1.out]; omega, by simp, rfl⟩⟩
    · rw [hm] at look
      simp only [Option.map_some] at look
      have HM := hid hm
      clear hm
      go_enter Try.func51, Try.ntmps51
      go_wp2
      go_ret
      exact ⟨b, 0, M, ks, rfl, HS, .inr ⟨by rw [e1.out]; omega, HM.out, rfl⟩⟩

theorem of_at (s : St k w F M ks op us uv H hv) (x : Int) (hx : x ∈ k.Ks) :
    Calls Try.prog 51 #[.pointer (some ⟨k.C, 3, none⟩), .int .i64 x] w fun e w' => ∃ b o M' ks', e = .returned (.pointer (some ⟨b, o, none⟩)) ∧ Hid (St k w' F M' ks' op us uv H hv) ∧ Hid (At k M' x b o) := of_any s x hx
end

end Go.Proofs.Ytdkkdfgaponlbaa
