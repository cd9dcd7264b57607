/- Behind what is learnt its first literal follows. No program. -/
import Derived.Test.YtdecejhobefefaaLrnW
namespace Go.Proofs.Ytdecejhobefefaa
open LitM TrailM EngM

section
variable {S : Eng}
theorem Lrnt.kt {t : Nat} {zs : List Int} (h : Lrnt S t zs) (hI : Inv S) : 0 ≤ backZ S zs ∧ backZ S zs < (t : Int) ∧ t ≤ S.le.length := by
  obtain ⟨u, r, rfl, hu, hr, hb⟩ := h.hd
  have hu1 := h.fl u (by simp)
  obtain ⟨_, j, x, hx, e, _, e2, _⟩ := false_at hI hu1.1
  have hx2 := (hI.pre.one x (List.mem_of_getElem? hx)).2.2
  rcases hb with ⟨_, e0⟩ | ⟨y, hy, e0⟩
  · rw [e0]; exact ⟨Int.le_refl _, by omega, by omega⟩
  · have h1 := (hr y hy).1
    have h2 := (h.fl y (List.mem_cons_of_mem _ hy)).2.1
    rw [← e0]
    exact ⟨by omega, h1, by omega⟩
theorem Lrnt.both {t : Nat} {zs : List Int} (h : Lrnt S t zs) (hI : Inv S) : bothB zs = false := by
  rw [Bool.eq_false_iff]
  intro hb
  obtain ⟨y, h1, h2⟩ := (bothB_iff _).1 hb
  obtain ⟨ho, j, x, hx, e, _⟩ := false_at hI (h.fl y h1).1
  obtain ⟨_, j', x', hx', e', _⟩ := false_at hI (h.fl _ h2).1
  rw [not_not] at e'
  exact tr_both hI.pre ho ⟨x', List.mem_of_getElem? hx', e'⟩ ⟨x, List.mem_of_getElem? hx, e⟩
theorem Lrnt.fits {t : Nat} {zs : List Int} (h : Lrnt S t zs) (hI : Inv S) : fitsB S.n zs = true :=
  fitsB_iff.2 fun y hy => ⟨(false_var hI (h.fl y hy).1).2, (false_var hI (h.fl y hy).1).1⟩
theorem Lrnt.len {t : Nat} {zs : List Int} (h : Lrnt S t zs) (hI : Inv S) : zs.length ≤ S.n := by
  have h1 := mlen hI h.nd (fun y hy => (h.fl y hy).1)
  have h2 := hI.ok.len
  omega
theorem back_n (k : Nat) : (backF S k).n = S.n ∧ (backF S k).cs = S.cs := by
  unfold backF
  split
  · exact ⟨rfl, rfl⟩
  · exact ⟨rfl, rfl⟩
theorem lead (hI : Inv S) {t : Nat} {u : Int} {r : List Int} (h : Lrnt S t (u :: r)) {k : Nat} (hk : (k : Int) = backZ S (u :: r)) {ys : List Int} (hc : IsClean (u :: r) ys)
    (hp : ¬ 0 ≤ (propF (addF (backF S k) ys (bothB (u :: r)))).2) : valZ (propF (addF (backF S k) ys (bothB (u :: r)))).1.L u = 1 := by
  obtain ⟨kt0, kt1, kt2⟩ := h.kt hI
  have hkl : k < S.le.length := by omega
  have hI1 := inv_back hI (Nat.le_of_lt hkl)
  have hbo := h.both hI
  have hfit : fitsB (backF S k).n (u :: r) = true := by rw [back_n k |>.1]; exact h.fits hI
  have hlen := h.len hI
  have hn9 := hI.small.n
  have hI2 := inv_add hI1 hfit hc (by have := clean_le hc; omega)
  obtain ⟨hIP, hK, hor⟩ := inv_prop hI2
  have hdone : (propF (addF (backF S k) ys (bothB (u :: r)))).1.vi = (propF (addF (backF S k) ys (bothB (u :: r)))).1.L.length ∧ (propF (addF (backF S k) ys (bothB (u :: r)))).1.lo = [] := by
    rcases hor with ⟨_, a, b⟩ | ⟨id, e, _⟩
    · exact ⟨a, b⟩
    · omega
  have hcl : (clA (addF (backF S k) ys (bothB (u :: r))).cs (backF S k).cs.length).pr = true ∧ (clA (addF (backF S k) ys (bothB (u :: r))).cs (backF S k).cs.length).ls = ys := by
    unfold addF clA; simp
  have hkc := hK.cl (backF S k).cs.length
  have e1 : (roomF (addF (backF S k) ys (bothB (u :: r)))).cs = (addF (backF S k) ys (bothB (u :: r))).cs := rfl
  rw [e1] at hkc
  have hlr : (roomF (addF (backF S k) ys (bothB (u :: r)))).L = S.L.take (upTo S.L k) := by
    show (backF S k).L = _
    unfold backF
    rw [if_neg (by omega)]
  have hcs : (propF (addF (backF S k) ys (bothB (u :: r)))).1.cs.length = (backF S k).cs.length + 1 := by
    have e2 := hK.cs
    rw [e1] at e2
    rw [e2]
    show ((backF S k).cs ++ [_]).length = _
    simp
  have hfalse : ∀ y ∈ r, Tr (propF (addF (backF S k) ys (bothB (u :: r)))).1.L (-y) := fun y hy => by
    refine hK.tr ?_
    rw [hlr]
    obtain ⟨_, _, e0, _, hr, _⟩ := h.hd
    injection e0 with e3 e4
    subst e4
    obtain ⟨_, j, x, hx, e, _, e2, _⟩ := false_at hI (h.fl y (List.mem_cons_of_mem _ hy)).1
    have := (hr y hy).2
    exact ⟨x, mem_take_up hI.pre (List.mem_of_getElem? hx) (by omega), e⟩
  generalize propF (addF (backF S k) ys (bothB (u :: r))) = P at *
  rcases prop_done hIP hdone.1 hdone.2 (i := (backF S k).cs.length) (by omega) (by rw [hkc.1]; exact hcl.1) (by rw [hkc.2, hcl.2, hc.both]; exact hbo) with ⟨y, hy, ht⟩ | ⟨a, b, ha, hb, hab, _, a2, _, b2⟩
  · rw [hkc.2, hcl.2] at hy
    rcases List.mem_cons.1 ((hc.2 y).1 hy) with rfl | e
    · exact (val_one hIP.pre).2 ht
    · exact (tr_both hIP.pre (false_var hI (h.fl y (List.mem_cons_of_mem _ e)).1).2 ht (hfalse y e)).elim
  · rw [hkc.2, hcl.2] at ha hb
    have only : ∀ z, z ∈ ys → ¬ Tr P.1.L (-z) → z = u := fun z hz hn => by
      rcases List.mem_cons.1 ((hc.2 z).1 hz) with e | e
      · exact e
      · exact absurd (hfalse z e) hn
    exact absurd ((only a ha a2).trans (only b hb b2).symm) hab
end
end Go.Proofs.Ytdecejhobefefaa
