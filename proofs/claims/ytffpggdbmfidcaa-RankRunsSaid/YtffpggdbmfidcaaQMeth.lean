/- The contracts of a queue's own methods: Len, Less, Swap, Push, Pop. -/
import Derived.Test.YtffpggdbmfidcaaQue
import Derived.BigQuiet
import Derived.BigRegion
import Derived.Deep.QuietTactic
import Derived.BigGuardPart
import Derived.WalkLawsBesides
import Derived.WalkSpells
namespace Go.Proofs.Ytffpggdbmfidcaa
open Go.RowKit HeapM

section
variable {b gs cs gp cp go co n m : Nat} {sc pl : Nat → Int} {od : Nat → Nat}

set_option maxHeartbeats 1600000 in
set_option maxRecDepth 100000 in
theorem len_any (w : World) (h : QAt w b gs cs gp cp go co n m sc pl od) :
    Calls Try.prog 35 #[.pointer (some ⟨b, 0, none⟩)] w fun e w' => e = .returned (.int .i64 m) ∧ w = w' := by
  have c2 := h.h2
  clear h
  go_enter Try.func35, Try.ntmps35
  go_wp2
  go_ret
  exact ⟨rfl, rfl⟩

set_option maxHeartbeats 3200000 in
set_option maxRecDepth 100000 in
theorem less_nat (w : World) (h : QAt w b gs cs gp cp go co n m sc pl od) (hI : Inv n m pl od) (_ : n ≤ 1000) {i k : Nat} (hi : i < m) (hk : k < m) :
    Calls Try.prog 54 #[.pointer (some ⟨b, 0, none⟩), .int .i64 i, .int .i64 k] w fun e w' => e = .returned (.bool (lessB sc (od i) (od k))) ∧ ∃ q, w' = w.drewN q := by
  have c0 := h.h0
  have c2 := h.h2
  obtain ⟨a1, a2, _⟩ := hI.fwd i hi
  obtain ⟨b1, b2, _⟩ := hI.fwd k hk
  have ci := h.ods.cell hi
  have ck := h.ods.cell hk
  have hml := hI.le
  have di := h.scs.cell (show od i < n + 1 by omega)
  have dk := h.scs.cell (show od k < n + 1 by omega)
  clear h hI
  generalize hv : od i = v at *
  generalize hu : od k = u at *
  generalize hx : sc v = x at *
  generalize hy : sc u = y at *
  have HL : Hid (lessB sc v u = decide (y < x ∨ (x = y ∧ v < u))) := by unfold Hid; rw [← hx, ← hy]; rfl
  clear hv hu hx hy
  by_cases hne : x = y
  · subst hne
    have t1 : (x != x) = false := by simp
    go_enter Try.func54, Try.ntmps54
    go_wp2_with fail
    go_quiet (fail)
    go_wp2_with fail
    go_quiet (fail)
    go_wp2_with fail
    go_ret
    exact ⟨ret_bool (by rw [HL.out]; simp), ⟨_, by first | rfl | (simp only [World.drewN_drewN]; rfl)⟩⟩
  · have t1 : (x != y) = true := by rw [bne_iff_ne]; exact hne
    go_enter Try.func54, Try.ntmps54
    go_wp2_with fail
    go_quiet (fail)
    go_wp2_with fail
    go_quiet (fail)
    go_wp2_with fail
    go_quiet (fail)
    go_wp2_with fail
    go_ret
    exact ⟨ret_bool (by rw [HL.out]; simp [hne]), ⟨_, by first | rfl | (simp only [World.drewN_drewN]; rfl)⟩⟩

set_option maxHeartbeats 6400000 in
set_option maxRecDepth 1000000 in
theorem swap_nat (w : World) (h : QAt w b gs cs gp cp go co n m sc pl od) (hI : Inv n m pl od) (_ : n ≤ 1000) {i k : Nat} (hi : i < m) (hk : k < m) :
    Calls Try.prog 57 #[.pointer (some ⟨b, 0, none⟩), .int .i64 i, .int .i64 k] w fun e w' => e = .returned (.tuple #[]) ∧ QAt w' b gs cs gp cp go co n m sc (swP pl od i k) (swO od i k) ∧ Kf (Foot b gs gp go) w w' := by
  have c2 := h.h2
  have ci := h.ods.cell hi
  have ck := h.ods.cell hk
  have fo := h.ods.free
  obtain ⟨s1, e1⟩ : ∃ s1, (w.setCell ⟨go, i, none⟩ (.int .i64 (od k : Int))).cell? ⟨go, k, none⟩ = some s1 := ⟨_, (h.ods.set hi (od k : Int)).cell hk⟩
  obtain ⟨s2, e2⟩ : ∃ s2, (w.setCell ⟨go, k, none⟩ (.int .i64 (od i : Int))).cell? ⟨go, i, none⟩ = some s2 := ⟨_, (h.ods.set hk (od i : Int)).cell hi⟩
  have hml := hI.le
  have HQ := Lib.hid h
  have HI := Lib.hid hI
  clear h hI
  generalize hv : od i = v at *
  generalize hu : od k = u at *
  have HV := Lib.hid hv
  have HU := Lib.hid hu
  clear hv hu
  go_enter Try.func57, Try.ntmps57
  go_wp2_with fail
  go_region
  have HQ1 : Hid (QAt (((w.setCell ⟨go, i, none⟩ (.int .i64 (u : Int))).setCell ⟨go, k, none⟩ (.int .i64 (v : Int))).drew) b gs cs gp cp go co n m sc pl (swO od i k)) := by
    have := (HQ.out.setO hi u).setO hk v
    rw [← HU.out, ← HV.out] at this ⊢
    exact this.drewN 1
  have HK1 : Hid (Kf (Foot b gs gp go) w (((w.setCell ⟨go, i, none⟩ (.int .i64 (u : Int))).setCell ⟨go, k, none⟩ (.int .i64 (v : Int))).drew)) :=
    (((Kf.refl _ _).set (.inl (.inr (.inr (.inr rfl)))) _).set (.inl (.inr (.inr (.inr rfl)))) _).drew
  generalize (((w.setCell ⟨go, i, none⟩ (.int .i64 (u : Int))).setCell ⟨go, k, none⟩ (.int .i64 (v : Int))).drew) = W1 at HQ1 HK1 ⊢
  clear c2 ci ck fo e1 e2
  have hoi : swO od i k i = u := by
    rw [swO_at, ← HU.out]; split
    · rename_i e; rw [e]
    · rw [if_pos rfl]
  have hok : swO od i k k = v := by rw [swO_r, HV.out]
  have hui := HI.out.fwd k hk
  have hvi := HI.out.fwd i hi
  rw [HU.out] at hui
  rw [HV.out] at hvi
  have hun : u < n + 1 := by omega
  have hvn : v < n + 1 := by omega
  clear hui hvi
  have c1 := HQ1.out.h1
  have c2 := HQ1.out.h2
  have ci := HQ1.out.ods.cell hi
  have cu := HQ1.out.pls.cell hun
  have fp := HQ1.out.pls.free u
  rw [hoi] at ci
  go_wp2_with fail
  go_region
  have HQ2 : Hid (QAt ((W1.setCell ⟨gp, u, none⟩ (.int .i64 (i : Int))).drew) b gs cs gp cp go co n m sc (upd pl u i) (swO od i k)) := (HQ1.out.setP hun (i : Int)).drewN 1
  have HK2 : Hid (Kf (Foot b gs gp go) w ((W1.setCell ⟨gp, u, none⟩ (.int .i64 (i : Int))).drew)) := (HK1.out.set (.inl (.inr (.inr (.inl rfl)))) _).drew
  generalize ((W1.setCell ⟨gp, u, none⟩ (.int .i64 (i : Int))).drew) = W2 at HQ2 HK2 ⊢
  clear c1 c2 ci cu fp HQ1 HK1
  have c1 := HQ2.out.h1
  have c2 := HQ2.out.h2
  have ci := HQ2.out.ods.cell hk
  have cu := HQ2.out.pls.cell hvn
  have fp := HQ2.out.pls.free v
  rw [hok] at ci
  go_wp2_with fail
  go_region
  have HQ3 : Hid (QAt ((W2.setCell ⟨gp, v, none⟩ (.int .i64 (k : Int))).drew) b gs cs gp cp go co n m sc (swP pl od i k) (swO od i k)) := by
    have := (HQ2.out.setP hvn (k : Int)).drewN 1
    unfold swP
    rw [HU.out, HV.out]
    exact this
  have HK3 : Hid (Kf (Foot b gs gp go) w ((W2.setCell ⟨gp, v, none⟩ (.int .i64 (k : Int))).drew)) := (HK2.out.set (.inl (.inr (.inr (.inl rfl)))) _).drew
  go_end0
  exact ⟨rfl, HQ3.out, HK3.out⟩

set_option maxHeartbeats 3200000 in
set_option maxRecDepth 100000 in
theorem pop_nat (w : World) (h : QAt w b gs cs gp cp go co n (m + 1) sc pl od) (hI : Inv n (m + 1) pl od) (_ : n ≤ 1000) :
    Calls Try.prog 55 #[.pointer (some ⟨b, 0, none⟩)] w fun e w' => e = .returned (.iface 3 (.int .i64 (od m : Int))) ∧ QAt w' b gs cs gp cp go co n m sc (upd pl (od m) (-1)) od ∧ Kf (Foot b gs gp go) w w' := by
  have c2 := h.h2
  have cm := h.ods.cell (Nat.lt_succ_self m)
  have f2 := h.free 2
  obtain ⟨a1, a2, _⟩ := hI.fwd m (Nat.lt_succ_self m)
  have hml := hI.le
  have hco := h.ods.cap_le
  have hmx : co ≤ 9223372036854775807 := by have := hco.2; unfold maxLen at this; omega
  have hco1 := hco.1
  clear hco
  have HQ1 := Lib.hid h.cut
  have HQ2 := Lib.hid ((h.cut).setP (show od m < n + 1 by omega) (-1))
  clear h hI
  have c1 := HQ1.out.h1
  have cp1 := HQ1.out.pls.cell (show od m < n + 1 by omega)
  have fp := HQ1.out.pls.free (od m)
  generalize hv : od m = v at *
  have HV := Lib.hid hv
  clear hv
  go_enter Try.func55, Try.ntmps55
  go_wp2
  go_ret
  exact ⟨rfl, HQ2.out, ((Kf.refl _ _).set (.inl (.inl rfl)) _).set (.inl (.inr (.inr (.inl rfl)))) _⟩
end
end Go.Proofs.Ytffpggdbmfidcaa
