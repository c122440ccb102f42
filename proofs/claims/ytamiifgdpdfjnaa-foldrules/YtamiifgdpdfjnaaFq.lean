/-
  What chapter 17 says of 0, 1, and of twice the same, plain. No Go text here.
-/
import Derived.Test.YtamiifgdpdfjnaaFp
namespace Go.Proofs.Ytamiifgdpdfjnaa
open Go.RowKit
set_option linter.unusedVariables false

/-! ### lists that go on -/
def Ext (N N' : List Nd) : Prop := ∃ ys, N' = N ++ ys
theorem Ext.refl (N : List Nd) : Ext N N := ⟨[], by simp⟩
theorem Ext.trans {N N' N'' : List Nd} (h : Ext N N') (g : Ext N' N'') : Ext N N'' := by
  obtain ⟨ys, rfl⟩ := h
  obtain ⟨zs, rfl⟩ := g
  exact ⟨ys ++ zs, by simp⟩
theorem Ext.isN {N N' : List Nd} (h : Ext N N') {a : Int} (ha : isN N a = true) : isN N' a = true := by
  obtain ⟨ys, rfl⟩ := h
  obtain ⟨i, rfl, hi⟩ := isN_yes ha
  exact isN_nat (by simp; omega)
theorem Ext.ndA {N N' : List Nd} (h : Ext N N') {a : Int} (ha : Ytamiifgdpdfjnaa.isN N a = true) : ndA N' a = ndA N a := by
  obtain ⟨ys, rfl⟩ := h
  obtain ⟨i, rfl, hi⟩ := isN_yes ha
  have h1 := ndA_nat hi
  have h2 := ndA_nat (N := N ++ ys) (i := i) (by simp; omega)
  rw [List.getElem?_append_left hi, h1] at h2
  exact (Option.some.inj h2).symm
theorem res_ext (M : Nat) (N : List Nd) (p : Plan) : Ext N (resN M N p) := by
  cases p with
  | inl p => exact Ext.refl N
  | inr n =>
    simp only [resN]
    rcases mkN_cases M N n with ⟨_, e, _⟩ | ⟨_, _, e, _⟩ | ⟨_, _, e, _⟩
    · rw [e]; exact Ext.refl N
    · rw [e]; exact ⟨[n], rfl⟩
    · rw [e]; exact Ext.refl N

/-! ### what is told -/
def Tell (M : Nat) (N : List Nd) (p : Plan) (i : Int) (N' : List Nd) : Prop := resI M N p = i ∧ resE M N p = 0 ∧ resN M N p = N'

theorem tell_own (M : Nat) (N : List Nd) (i : Int) : Tell M N (.inl (i, 0)) i N := ⟨rfl, rfl, rfl⟩
theorem tell_old {N : List Nd} (r : Wl N) {a : Int} {n : Nd} (ha : isN N a = true) (hn : ndA N a = n) (M : Nat) : Tell M N (.inr n) a N := by
  obtain ⟨i, rfl, hi⟩ := isN_yes ha
  have h1 := ndA_nat hi
  rw [hn] at h1
  have hm : n ∈ N := List.mem_of_getElem? h1
  have h2 := fnd_at hm
  have h3 := fnd_lt.2 hm
  have e : fnd N n = i := (List.getElem?_inj h3 r.one).1 (by rw [h1, h2])
  rcases mkN_cases M N n with ⟨_, g1, g2, g3⟩ | ⟨g, _⟩ | ⟨g, _⟩
  · exact ⟨by simp only [resI]; rw [g2, e], g3, g1⟩
  · exact absurd hm g
  · exact absurd hm g
theorem tell_new {M : Nat} {N : List Nd} {n : Nd} (hr : N.length < M) : ∃ i N', Tell M N (.inr n) i N' ∧ isN N' i = true ∧ ndA N' i = n := by
  rcases mkN_cases M N n with ⟨g, g1, g2, g3⟩ | ⟨g, _, g1, g2, g3⟩ | ⟨_, g, _⟩
  · have h3 := fnd_lt.2 g
    refine ⟨_, _, ⟨g2, g3, g1⟩, isN_nat h3, ?_⟩
    have h1 := ndA_nat h3
    rw [fnd_at g] at h1
    exact (Option.some.inj h1).symm
  · refine ⟨_, _, ⟨g2, g3, g1⟩, isN_nat (by simp), ?_⟩
    have h1 := ndA_nat (N := N ++ [n]) (i := N.length) (by simp)
    simp at h1
    exact h1.symm
  · exact absurd hr g

/-! ### constants -/
theorem plan_con {N : List Nd} {d : Dd} {n : Nd} (h : planD N d = .inr n) (ho : n.op = 20) : ∃ x, n = ⟨20, n.wd, 0, 0, 0, cutF n.wd x⟩ := by
  obtain ⟨kd, dw, da, db, dc, dx⟩ := d
  unfold planD at h
  simp only [] at h
  split at h
  · unfold constP at h
    split at h
    · cases h; exact ⟨dx, rfl⟩
    · cases h
  split at h
  · unfold varP at h
    split at h
    · split at h
      · cases h
      · split at h
        · cases h
        · cases h; simp at ho
    · cases h
  split at h
  · unfold unP at h
    split at h
    · cases h
    · rename_i g
      split at h
      · cases h
        simp only at ho
        subst ho
        simp at g
      · cases h
  split at h
  · unfold binP at h
    split at h
    · cases h
    · rename_i g
      split at h
      · split at h
        · cases h
        · cases h
          simp only at ho
          subst ho
          simp at g
      · cases h
  split at h
  · unfold iteP at h
    split at h
    · split at h
      · cases h
      · cases h; simp at ho
    · cases h
  split at h
  · unfold extP at h
    split at h
    · split at h
      · cases h
      · cases h; simp at ho
    · cases h
  split at h
  · unfold catP at h
    split at h
    · split at h
      · cases h
      · cases h; simp at ho
    · cases h
  · unfold widP at h
    split at h
    · split at h
      · cases h
      · split at h
        · cases h
        · split at h
          · cases h; simp at ho
          · cases h; simp at ho
    · cases h

theorem cut_twice (w x : Int) : cutF w (cutF w x) = cutF w x := Wd.cut_cut w x

theorem con_shape {N : List Nd} (r : Wl N) {a : Int} (ha : isN N a = true) (ho : (ndA N a).op = 20) : ndA N a = ⟨20, (ndA N a).wd, 0, 0, 0, (ndA N a).v⟩ ∧ cutF (ndA N a).wd (ndA N a).v = (ndA N a).v := by
  obtain ⟨i, rfl, hi⟩ := isN_yes ha
  obtain ⟨d, hd⟩ := r.lay i _ (ndA_nat hi)
  obtain ⟨x, hx⟩ := plan_con hd ho
  generalize ndA N (i : Int) = n at hx ho
  have hv : n.v = cutF n.wd x := by rw [hx]
  refine ⟨by rw [hv]; exact hx, by rw [hv, cut_twice]⟩

theorem const_at {w : Int} (hw : 1 ≤ w ∧ w ≤ 64) (x : Int) : constP w x = .inr ⟨20, w, 0, 0, 0, cutF w x⟩ := by
  unfold constP; rw [fits_yes hw.1 hw.2]; rfl

/-! ### each list is one of terms that calls make -/
theorem const_wl {N : List Nd} (r : Wl N) (M : Nat) (w x : Int) : Wl (resN M N (constP w x)) := r.made M ⟨0, w, 0, 0, 0, x⟩
theorem var_wl {N : List Nd} (r : Wl N) (M : Nat) (w i : Int) : Wl (resN M N (varP N w i)) := r.made M ⟨1, w, i, 0, 0, 0⟩
theorem un_wl {N : List Nd} (r : Wl N) (M : Nat) (op a : Int) : Wl (resN M N (unP N op a)) := r.made M ⟨2, 0, op, a, 0, 0⟩
theorem bin_wl {N : List Nd} (r : Wl N) (M : Nat) (op a b : Int) : Wl (resN M N (binP N op a b)) := r.made M ⟨3, 0, op, a, b, 0⟩
theorem ite_wl {N : List Nd} (r : Wl N) (M : Nat) (c a b : Int) : Wl (resN M N (iteP N c a b)) := r.made M ⟨4, 0, c, a, b, 0⟩
theorem fbin_wl {N : List Nd} (r : Wl N) (M : Nat) (op a b : Int) : Wl (resN M N (fbinP N op a b)) := by
  unfold fbinP
  split
  · split
    · exact const_wl r M _ _
    · split
      · exact r
      · exact bin_wl r M _ _ _
  · exact bin_wl r M _ _ _
theorem fun_wl {N : List Nd} (r : Wl N) (M : Nat) (op a : Int) : Wl (resN M N (funP N op a)) := by
  unfold funP
  split
  · split
    · exact const_wl r M _ _
    · split
      · exact r
      · exact un_wl r M _ _
  · exact un_wl r M _ _
theorem fite_wl {N : List Nd} (r : Wl N) (M : Nat) (c a b : Int) : Wl (resN M N (fiteP N c a b)) := by
  unfold fiteP
  split
  · split
    · exact r
    · split
      · exact r
      · exact ite_wl r M _ _ _
  · exact ite_wl r M _ _ _

/-! ### words -/
theorem or_none (v : Int) (h0 : 0 ≤ v) (h1 : v < 18446744073709551616) : bits .or .u64 v 0 = v ∧ bits .or .u64 0 v = v := by
  obtain ⟨V, rfl⟩ := Int.eq_ofNat_of_zero_le h0
  constructor
  · rw [u64_or _ _ h0 h1 (by omega) (by omega)]; simp
  · rw [u64_or _ _ (by omega) (by omega) h0 h1]; simp
theorem xor_none (v : Int) (h0 : 0 ≤ v) (h1 : v < 18446744073709551616) : bits .xor .u64 v 0 = v ∧ bits .xor .u64 0 v = v ∧ bits .xor .u64 v v = 0 := by
  obtain ⟨V, rfl⟩ := Int.eq_ofNat_of_zero_le h0
  refine ⟨?_, ?_, ?_⟩
  · rw [u64_xor _ _ h0 h1 (by omega) (by omega)]; simp
  · rw [u64_xor _ _ (by omega) (by omega) h0 h1]; simp
  · rw [u64_xor _ _ h0 h1 h0 h1]; simp
theorem and_none (v : Int) (h0 : 0 ≤ v) (h1 : v < 18446744073709551616) : bits .and .u64 v 0 = 0 := by
  obtain ⟨V, rfl⟩ := Int.eq_ofNat_of_zero_le h0
  rw [u64_and _ _ h0 h1 (by omega) (by omega)]; simp

section
variable {w v : Int}
theorem word_bd (hw : 1 ≤ w ∧ w ≤ 64) (hv : cutF w v = v) : 0 ≤ v ∧ v < 18446744073709551616 := by rw [← hv]; exact cut_bd w v
theorem zero_cut (w : Int) : cutF w 0 = 0 := by unfold cutF; split <;> simp
theorem one_cut (hw : 1 ≤ w ∧ w ≤ 64) : cutF w 1 = 1 := by
  obtain ⟨n, rfl, h1, h2⟩ := width_nat hw.1 hw.2
  have := pow_le 1 n h1
  rw [cut_yes n 1 h1 h2]
  exact Int.emod_eq_of_lt (by omega) (by omega)
theorem sgn_cut (hw : 1 ≤ w ∧ w ≤ 64) (hv : cutF w v = v) : cutF w (Wd.sgnF w v) = v := by
  obtain ⟨n, rfl, h1, h2⟩ := width_nat hw.1 hw.2
  rw [Wd.sgn_yes n v h1 h2]
  rw [cut_yes n _ h1 h2] at hv ⊢
  split
  · rw [hv]; exact hv
  · rw [hv, Int.sub_emod_right]; exact hv

theorem raw_bin (op : Int) (hw : 1 ≤ w ∧ w ≤ 64) (ho : 1 ≤ op ∧ op ≤ 14) {a b : Int} (ha : cutF w a = a) (hb : cutF w b = b) : Wd.binF op w a b = cutF w (Wd.rawF op w a b) := by
  have e1 : Wd.cutF w a = a := ha
  have e2 : Wd.cutF w b = b := hb
  rw [(Wd.bin_yes ho hw).1, e1, e2]
  rfl

theorem bin_r0 (hw : 1 ≤ w ∧ w ≤ 64) (hv : cutF w v = v) {op : Int} (ho : op = 1 ∨ op = 2 ∨ op = 7 ∨ op = 8 ∨ op = 9 ∨ op = 10 ∨ op = 11) : Wd.binF op w v 0 = v := by
  have bd := word_bd hw hv
  rw [raw_bin op hw (by omega) hv (zero_cut w)]
  rcases ho with rfl | rfl | rfl | rfl | rfl | rfl | rfl
  · simpa [Wd.rawF] using hv
  · simpa [Wd.rawF] using hv
  · simpa [Wd.rawF, (or_none v bd.1 bd.2).1] using hv
  · simpa [Wd.rawF, (xor_none v bd.1 bd.2).1] using hv
  · simpa [Wd.rawF] using hv
  · simpa [Wd.rawF] using hv
  · simpa [Wd.rawF] using sgn_cut hw hv
theorem bin_l0 (hw : 1 ≤ w ∧ w ≤ 64) (hv : cutF w v = v) {op : Int} (ho : op = 1 ∨ op = 7 ∨ op = 8) : Wd.binF op w 0 v = v := by
  have bd := word_bd hw hv
  rw [raw_bin op hw (by omega) (zero_cut w) hv]
  rcases ho with rfl | rfl | rfl
  · simpa [Wd.rawF] using hv
  · simpa [Wd.rawF, (or_none v bd.1 bd.2).2] using hv
  · simpa [Wd.rawF, (xor_none v bd.1 bd.2).2.1] using hv
theorem bin_r1 (hw : 1 ≤ w ∧ w ≤ 64) (hv : cutF w v = v) : Wd.binF 3 w v 1 = v ∧ Wd.binF 3 w 1 v = v := by
  refine ⟨?_, ?_⟩
  · rw [raw_bin 3 hw (by omega) hv (one_cut hw)]
    simpa [Wd.rawF] using hv
  · rw [raw_bin 3 hw (by omega) (one_cut hw) hv]
    simpa [Wd.rawF] using hv
theorem bin_n0 (hw : 1 ≤ w ∧ w ≤ 64) (hv : cutF w v = v) : Wd.binF 3 w v 0 = 0 ∧ Wd.binF 6 w v 0 = 0 := by
  have bd := word_bd hw hv
  refine ⟨?_, ?_⟩
  · rw [raw_bin 3 hw (by omega) hv (zero_cut w)]
    simpa [Wd.rawF] using zero_cut w
  · rw [raw_bin 6 hw (by omega) hv (zero_cut w)]
    simpa [Wd.rawF, and_none v bd.1 bd.2] using zero_cut w
theorem bin_same (hw : 1 ≤ w ∧ w ≤ 64) (x : Int) : Wd.binF 8 w x x = 0 ∧ Wd.binF 2 w x x = 0 ∧ Wd.binF 12 w x x = 1 := by
  have bd := cut_bd w x
  have e : ∀ y, Wd.cutF w y = cutF w y := fun _ => rfl
  refine ⟨?_, ?_, ?_⟩
  · rw [(Wd.bin_yes (by omega) hw).1, e, e]
    have := xor_none (cutF w x) bd.1 bd.2
    simpa [Wd.rawF, this.2.2] using zero_cut w
  · rw [(Wd.bin_yes (by omega) hw).1, e, e]
    simpa [Wd.rawF] using zero_cut w
  · rw [(Wd.bin_yes (by omega) hw).1, e, e]
    simpa [Wd.rawF, Wd.b01] using one_cut hw
theorem sub_mod (a b m : Int) : (a - b % m) % m = (a - b) % m := by
  rw [Int.sub_emod, Int.emod_emod, ← Int.sub_emod]
theorem un_twice (hw : 1 ≤ w ∧ w ≤ 64) (hv : cutF w v = v) {op : Int} (ho : op = 15 ∨ op = 16) : Wd.unF op w (Wd.unF op w v) = v ∧ cutF w (Wd.unF op w v) = Wd.unF op w v := by
  obtain ⟨n, rfl, h1, h2⟩ := width_nat hw.1 hw.2
  have key : ∀ y, Wd.cutF (n : Int) y = y % 2 ^ n := fun y => cut_yes n y h1 h2
  rw [cut_yes n _ h1 h2] at hv
  rcases ho with rfl | rfl
  · have e : ∀ y, Wd.unF 15 (n : Int) y = (-1 - y) % 2 ^ n := fun y => key _
    refine ⟨?_, by rw [e, cut_yes n _ h1 h2, Int.emod_emod]⟩
    rw [e, e, sub_mod, show -1 - (-1 - v) = v by omega, hv]
  · have e : ∀ y, Wd.unF 16 (n : Int) y = (0 - y) % 2 ^ n := fun y => by rw [Int.zero_sub]; exact key _
    refine ⟨?_, by rw [e, cut_yes n _ h1 h2, Int.emod_emod]⟩
    rw [e, e, sub_mod, show 0 - (0 - v) = v by omega, hv]
end

end Go.Proofs.Ytamiifgdpdfjnaa
