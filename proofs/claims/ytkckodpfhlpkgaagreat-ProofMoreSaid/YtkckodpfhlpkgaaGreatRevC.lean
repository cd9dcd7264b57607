/- The contracts of slices.Clone and slices.Reverse at literals. -/
import Derived.Test.YtkckodpfhlpkgaaGreatRowV
import Derived.Test.YtkckodpfhlpkgaaGreatRd
import Derived.Test.YtkckodpfhlpkgaaGreatVar
import Derived.BigRegion
import Derived.Laws.AppendOwnNone
namespace Go.Proofs.YtkckodpfhlpkgaaGreat
open Go.RowKit LitM

theorem info_rlit : (Tryz.prog.info? 34).map (fun i => (i.zero, i.size, i.bytes)) = some (some (.int .i32 0), 1, 4) := by kernel_rfl
/-- Literals as cells. -/
def litC (f : Nat → Int) (j : Nat) : Value := .int .i32 (f j)
theorem Rd.lits {w : World} {B n : Nat} {ad : Addr} {xs : List Int} (h : Rd .i32 w B (some ad) n xs) : ∀ j u, (xs.map (Value.int .i32))[j]? = some u → w.cell? (ad.add j) = some u := by
  intro j u hu
  have hl := h.len
  have hj : j < n := by
    rcases Nat.lt_or_ge j n with h' | h'
    · exact h'
    · rw [List.getElem?_eq_none (by simp; omega)] at hu; cases hu
  obtain ⟨b, o, e, _, hc⟩ := h.get hj
  injection e with e
  subst e
  rw [List.getElem?_map, List.getElem?_eq_getElem (by omega)] at hu
  simp at hu
  subst hu
  rw [getD_lt (by omega)] at hc
  rw [show ((⟨b, o, none⟩ : Addr).add j) = ⟨b, o + j, none⟩ from by unfold Addr.add; split <;> simp_all]
  exact hc
theorem RowV.rd {w : World} {g n c : Nat} {xs : List Int} (h : RowV 34 1 w g n c (litC fun j => xs.getD j 0)) (hl : xs.length = n) : Rd .i32 w w.heap.size (some ⟨g, 0, none⟩) n xs :=
  ⟨hl, fun _ => ⟨g, 0, rfl, h.lt, fun j hj => by
    have := h.cell (show j < n * 1 by omega)
    simpa [litC] using this⟩⟩

/-- What Clone answers. -/
def CloneTo (n : Nat) (xs : List Int) (w : World) (e : Ending) (w' : World) : Prop :=
  ∃ g c, e = .returned (.slice (some ⟨g, 0, none⟩) n c) ∧ RowV 34 1 w' g n c (litC fun j => xs.getD j 0) ∧ w.heap.size ≤ g ∧ Below w.heap.size w w'
set_option maxHeartbeats 1600000 in
set_option maxRecDepth 100000 in
theorem clone_lit (w : World) (g s n c B : Nat) (xs : List Int) (h : Rd .i32 w B (some ⟨g, s, none⟩) n xs) (hB : B ≤ w.heap.size) (h0 : 0 < n) (hn : n ≤ 100000) :
    Calls Tryz.prog 61 #[.slice (some ⟨g, s, none⟩) n c] w (CloneTo n xs w) := by
  have hl := h.len
  have HR := Lib.hid (h.alloc hB (.cells #[] 34))
  have HS : Hid (SlV 34 1 (w.alloc (.cells #[] 34)) (some ⟨w.heap.size, 0, none⟩) 0 0 (fun _ => .int .i32 0)) := .inr ⟨w.heap.size, rfl, RowV.made (by omega) rfl (fun j hj => by omega)⟩
  have hb : Below w.heap.size w (w.alloc (.cells #[] 34)) := (Below.refl _ _).alloc (Nat.le_refl _) _
  have HB := Lib.hid hb
  clear h hb
  have tn := fun W : World => Lib.run_eql_slice_some_nil (P := Tryz.prog) W (t := 36) ⟨g, s, none⟩ n c Tryz.underlying36
  go_enter Tryz.func61, Tryz.ntmps61
  go_wp2_with (at_builtin; refine wpList_append_sl _ rfl _ _ 36 34 rfl Tryz.underlying36 info_rlit rfl (by decide) (by decide) (some ⟨w.heap.size, 0, none⟩) 0 0 _ rfl HS.out (by omega) ⟨g, s, none⟩ n c (xs.map (Value.int .i32)) rfl (by simp [hl]) HR.out.lits (by intro u hu; simp at hu; obtain ⟨x, _, rfl⟩ := hu; rfl) hn h0 ?_)
  intro g' c' w2 hr hg hk
  have HE : Hid (CloneTo n xs w (.returned (.slice (some ⟨g', 0, none⟩) n c')) w2) := by
    have hk2 := hk (fun k => w.heap.size ≤ k) (fun j hj => by rw [onB_some] at hj; exact Nat.le_of_eq hj.symm)
    have hr2 : RowV 34 1 w2 g' n c' (litC fun j => xs.getD j 0) := by
      refine RowV.congr hr fun j hj => ?_
      unfold appV litC
      simp [List.getD, List.getElem?_eq_getElem (show j < xs.length by omega)]
    refine ⟨g', c', rfl, hr2, ?_, HB.out.trans (hk2.below (by simp) (fun x hx => hx))⟩
    rcases hg with e | e
    · rw [onB_some] at e; exact Nat.le_of_eq e.symm
    · have : w.heap.size + 1 ≤ g' := by simpa using e
      omega
  clear hr hg hk tn
  go_wp2_with fail
  go_ret
  exact HE.out

/-- Turned about as far as i. -/
def revF (f : Nat → Int) (n i : Nat) (k : Nat) : Int := if k < i ∨ n - i ≤ k then f (n - 1 - k) else f k
theorem revF_step (f : Nat → Int) {n i : Nat} (h : 2 * i + 1 < n) {k : Nat} (_ : k < n) :
    litC (revF f n (i + 1)) k = updV (updV (litC (revF f n i)) i (.int .i32 (f (n - 1 - i)))) (n - 1 - i) (.int .i32 (f i)) k := by
  unfold litC
  by_cases e1 : k = n - 1 - i
  · subst e1
    rw [updV_at]
    unfold revF
    rw [if_pos (by omega), show n - 1 - (n - 1 - i) = i from by omega]
  · rw [updV_ne _ _ e1]
    by_cases e2 : k = i
    · subst e2
      rw [updV_at]
      unfold revF
      rw [if_pos (by omega)]
    · rw [updV_ne _ _ e2]
      unfold revF
      by_cases e3 : k < i ∨ n - i ≤ k
      · rw [if_pos e3, if_pos (by omega)]
      · rw [if_neg e3, if_neg (by omega)]
theorem revF_end (f : Nat → Int) {n i : Nat} (h : n ≤ 2 * i + 1) (h2 : 2 * i ≤ n) {k : Nat} (hk : k < n) : litC (fun j => f (n - 1 - j)) k = litC (revF f n i) k := by
  unfold litC revF
  by_cases e : k < i ∨ n - i ≤ k
  · rw [if_pos e]
  · rw [if_neg e]
    have hh : n - 1 - k = k := by omega
    show Value.int .i32 (f (n - 1 - k)) = _
    rw [hh]
set_option maxHeartbeats 3200000 in
set_option maxRecDepth 100000 in
theorem reverse_lit (w : World) (g n c : Nat) (f : Nat → Int) (h : RowV 34 1 w g n c (litC f)) (hn : n ≤ 100000) :
    Calls Tryz.prog 63 #[.slice (some ⟨g, 0, none⟩) n c] w fun e w' => e = .returned (.tuple #[]) ∧ RowV 34 1 w' g n c (litC fun j => f (n - 1 - j)) ∧ Kf (fun k => k = g) w w' := by
  have HR := Lib.hid h
  have hcm := h.bd
  obtain ⟨hcm1, hcm2⟩ := hcm
  clear h
  go_enter Tryz.func63, Tryz.ntmps63
  go_wp2_with fail
  obtain ⟨wo, rfl⟩ : ∃ wo : World, wo = w := ⟨_, rfl⟩
  go_loopw [2, 3] (fun a b wr => ∃ i : Nat, 2 * i ≤ n ∧ a = .int .i64 (i : Int) ∧ b = .int .i64 ((n : Int) - 1 - (i : Int)) ∧ RowV 34 1 wr g n c (litC (revF f n i)) ∧ Kf (fun k => k = g) wo wr) (fun a _ _ => n - (intOf a).toNat)
  case atStart =>
    refine ⟨0, by omega, rfl, ?_, HR.out.congr fun j hj => ?_, Kf.refl _ _⟩
    · show Value.int .i64 _ = .int .i64 _
      congr 1; omega
    · unfold litC revF; rw [if_neg (by omega)]
  case round =>
    obtain ⟨i, hi, rfl, rfl, hr, hk⟩ := hrel
    by_cases hlt : 2 * i + 1 < n
    · have ti : decide ((i : Int) < (n : Int) - 1 - (i : Int)) = true := decide_eq_true (by omega)
      obtain ⟨q, hq⟩ : ∃ q : Nat, (n : Int) - 1 - (i : Int) = (q : Int) := ⟨n - 1 - i, by omega⟩
      have hq' : q = n - 1 - i := by omega
      rw [hq] at ti ⊢
      have ci : wr.cell? ⟨g, i, none⟩ = some (.int .i32 (revF f n i i)) := hr.cell (show i < n * 1 by omega)
      have cq : wr.cell? ⟨g, q, none⟩ = some (.int .i32 (revF f n i q)) := hr.cell (show q < n * 1 by omega)
      have fi := hr.free i
      have fq := hr.free q
      have e1 : revF f n i i = f i := by unfold revF; rw [if_neg (by omega)]
      have e2 : revF f n i q = f q := by unfold revF; rw [if_neg (by omega)]
      have HE : Hid (∀ d, RowV 34 1 (((wr.setCell ⟨g, i, none⟩ (.int .i32 (f q))).setCell ⟨g, q, none⟩ (.int .i32 (f i))).drewN d) g n c (litC (revF f n (i + 1))) ∧ Kf (fun k => k = g) wo (((wr.setCell ⟨g, i, none⟩ (.int .i32 (f q))).setCell ⟨g, q, none⟩ (.int .i32 (f i))).drewN d)) := fun d => by
        refine ⟨RowV.same (((hr.set (show i < n * 1 by omega) (.int .i32 (f q))).set (show q < n * 1 by omega) (.int .i32 (f i))).congr fun j hj => ?_) rfl, ((hk.set (.inl rfl) _).set (.inl rfl) _).drewN d⟩
        rw [hq']; exact revF_step f hlt (by omega)
      rw [e1] at ci
      rw [e2] at cq
      have niq : i ≠ q := by omega
      have tn2 : i < q := by omega
      have hi1 : i < n := by omega
      have hq1 : q < n := by omega
      have HQ' := Lib.hid hq'
      clear hr hk e1 e2 hq hq'
      generalize f i = x at *
      generalize f q = y at *
      go_wp2_with fail
      go_region
      go_wp2_with fail
      go_roundw
      case rel => exact ⟨i + 1, by have := HQ'.out; omega, by go_num, by congr 1; have := HQ'.out; omega, (HE.out 1).1, (HE.out 1).2⟩
      case measure => simp [intOf]; omega
    · have ti : decide ((i : Int) < (n : Int) - 1 - (i : Int)) = false := decide_eq_false (by omega)
      have HE : Hid (RowV 34 1 wr g n c (litC fun j => f (n - 1 - j)) ∧ Kf (fun k => k = g) wo wr) := ⟨hr.congr fun j hj => revF_end f (by omega) hi (by omega), hk⟩
      clear hr hk
      go_wp2_with fail
      go_end0
      exact ⟨rfl, HE.out⟩
end Go.Proofs.YtkckodpfhlpkgaaGreat
