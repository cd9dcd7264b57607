/- One engine among other blocks of a law's own: what its calls leave, and that they leave the others. -/
import Derived.Test.YtkckodpfhlpkgaaGreatEBack
import Derived.Test.YtkckodpfhlpkgaaGreatELive
import Derived.Test.YtkckodpfhlpkgaaGreatEngW
namespace Go.Proofs.YtkckodpfhlpkgaaGreat
open Go.RowKit LitM TrailM EngM

/-- Blocks that an engine doesn't own stay. -/
theorem Ext.blk {q q' : Pm} {w w' : World} (h : Ext q q' w w') {k : Nat} (hk : k < w.heap.size) (ho : q.own k = .no) : w'.heap[k]? = w.heap[k]? ∧ q'.own k = .no :=
  ⟨h.kf.block k hk (fun e => e ho), by rw [h.old k hk]; exact ho⟩
theorem Ext.row {q q' : Pm} {w w' : World} {T : TypeId} {k g n c : Nat} {f : Nat → Value} (h : Ext q q' w w') (ho : q.own g = .no) (hr : RowV T k w g n c f) : RowV T k w' g n c f ∧ q'.own g = .no :=
  ⟨hr.same (h.blk hr.lt ho).1, (h.blk hr.lt ho).2⟩
theorem Ext.sl {q q' : Pm} {w w' : World} {T : TypeId} {k n c : Nat} {A : Option Addr} {f : Nat → Value} (h : Ext q q' w w') (ho : ∀ j, onB A j → q.own j = .no) (hr : SlV T k w A n c f) : SlV T k w' A n c f ∧ ∀ j, onB A j → q'.own j = .no :=
  ⟨hr.same fun j hj => (h.blk (hr.lt j hj) (ho j hj)).1, fun j hj => (h.blk (hr.lt j hj) (ho j hj)).2⟩
/-- An engine of a law's own; q says which blocks are its. -/
structure Sg (B : Nat) (w0 w : World) (b : Nat) (S : Eng) (q : Pm) : Prop where
  eng : E6 w b q S S.le.length
  inv : Inv S
  own : ∀ k, q.own k ≠ .no → B ≤ k
  out : Below B w0 w
  hs : B ≤ w.heap.size
section
variable {B b : Nat} {w0 w w' : World} {S S' : Eng} {q q' : Pm}
theorem Sg.to (h : Sg B w0 w b S q) (hE : E6 w' b q' S' S'.le.length) (hI : Inv S') (hX : Ext q q' w w') : Sg B w0 w' b S' q' :=
  ⟨hE, hI, fun k hk => by
    rcases Nat.lt_or_ge k w.heap.size with e | e
    · rw [hX.old k e] at hk; exact h.own k hk
    · have := h.hs; omega, h.out.trans (hX.kf.below h.hs h.own), Nat.le_trans h.hs hX.kf.size⟩
theorem Sg.kept {F : Nat → Prop} (h : Sg B w0 w b S q) (hk : Kf F w w') (hF : ∀ k, F k → q.own k = .no ∧ B ≤ k) : Sg B w0 w' b S q :=
  ⟨h.eng.kept hk (fun k ho hf => ho (hF k hf).1), h.inv, h.own, h.out.trans (hk.below h.hs fun k hf => (hF k hf).2), Nat.le_trans h.hs hk.size⟩
theorem Sg.below (h : Sg B w0 w b S q) (hb : Below w.heap.size w w') : Sg B w0 w' b S q :=
  ⟨h.eng.below hb, h.inv, h.own, h.out.trans (hb.mono h.hs), Nat.le_trans h.hs hb.size⟩
theorem Sg.fresh (h : Sg B w0 w b S q) {k : Nat} (hk : w.heap.size ≤ k) : q.own k = .no := h.eng.fr k hk
theorem Sg.make {n : Nat} {e : Ending} (h : NewETo n w e w') (hn : n ≤ 90000) (h0 : Below B w0 w) (hs : B ≤ w.heap.size) : ∃ b q, e = .returned (.pointer (some ⟨b, 0, none⟩)) ∧ Sg B w0 w' b (newE n) q ∧ Below w.heap.size w w' ∧ (∀ k, q.own k ≠ .no → w.heap.size ≤ k) := by
  obtain ⟨b, q, he, hE, hF, hB⟩ := h
  exact ⟨b, q, he, ⟨hE, inv_new hn, fun k hk => Nat.le_trans hs (hF k hk), h0.trans (hB.mono hs), Nat.le_trans hs hB.size⟩, hB, hF⟩
/-- What an Add leaves. -/
def AddS (S : Eng) (xs : List Int) (e : Ending) (S' : Eng) : Prop :=
  (fitsB S.n xs = false ∧ e = .returned (.tuple #[.int .i64 0, .int .i64 51]) ∧ S' = S) ∨
  (fitsB S.n xs = true ∧ e = .returned (.tuple #[.int .i64 (S.cs.length : Int), .int .i64 0]) ∧ ∃ ys, IsClean xs ys ∧ S' = addF S ys (bothB xs))
theorem AddS.pair {xs : List Int} {e : Ending} (h : AddS S xs e S') : ∃ r1 r2, e = .returned (.tuple #[.int .i64 r1, .int .i64 r2]) := by
  rcases h with ⟨_, e, _⟩ | ⟨_, e, _⟩
  · exact ⟨_, _, e⟩
  · exact ⟨_, _, e⟩
theorem Sg.add (h : Sg B w0 w b S q) (hcn : S.cs.length ≤ 20000) (A : Option Addr) (n c : Nat) (xs : List Int) (hr : Rd .i32 w w.heap.size A n xs) (h32 : In32 xs) (hm : n ≤ 10000) :
    Calls Tryz.prog 67 #[.pointer (some ⟨b, 0, none⟩), .slice A n c] w fun e w' => ∃ S' q', AddS S xs e S' ∧ Sg B w0 w' b S' q' ∧ Ext q q' w w' := by
  have hsm := h.inv.small
  have hl := hr.len
  refine (add_any h.eng hsm.n (by omega) (by have := hsm.ln; omega) A n c xs hr h32 hm).mono fun e w' ht => ?_
  rcases ht with ⟨a, e1, q', hE', hX⟩ | ⟨a, e1, q', ys, hc, hE', hX⟩
  · exact ⟨S, q', .inl ⟨a, e1, rfl⟩, h.to hE' h.inv hX, hX⟩
  · exact ⟨_, q', .inr ⟨a, e1, ys, hc, rfl⟩, h.to hE' (inv_add h.inv a hc (by have := clean_le hc; omega)) hX, hX⟩
/-- Clauses of any length, where what is left of them is short. -/
theorem Sg.addBig (h : Sg B w0 w b S q) (hcn : S.cs.length ≤ 20000) (A : Option Addr) (n c : Nat) (xs : List Int) (hr : Rd .i32 w w.heap.size A n xs) (h32 : In32 xs) (hm : n * 4 ≤ 140737488351232) (hm2 : ∀ ys, fitsB S.n xs = true → IsClean xs ys → ys.length ≤ 10000) :
    Calls Tryz.prog 67 #[.pointer (some ⟨b, 0, none⟩), .slice A n c] w fun e w' => ∃ S' q', AddS S xs e S' ∧ Sg B w0 w' b S' q' ∧ Ext q q' w w' := by
  have hsm := h.inv.small
  have hl := hr.len
  refine (add_big h.eng hsm.n (by omega) (by have := hsm.ln; omega) A n c xs hr h32 hm hm2).mono fun e w' ht => ?_
  rcases ht with ⟨a, e1, q', hE', hX⟩ | ⟨a, e1, q', ys, hc, hE', hX⟩
  · exact ⟨S, q', .inl ⟨a, e1, rfl⟩, h.to hE' h.inv hX, hX⟩
  · exact ⟨_, q', .inr ⟨a, e1, ys, hc, rfl⟩, h.to hE' (inv_add h.inv a hc (by have := hm2 ys a hc; omega)) hX, hX⟩
theorem Sg.decide (h : Sg B w0 w b S q) (l : Int) (l0 : -2147483648 ≤ l) (l1 : l ≤ 2147483647) :
    Calls Tryz.prog 32 #[.pointer (some ⟨b, 0, none⟩), .int .i32 l] w fun e w' => e = .returned (.int .i64 (eErr S l)) ∧ ∃ q', Sg B w0 w' b (decE S l) q' ∧ Ext q q' w w' := by
  refine (edecide_any h.eng rfl h.inv.small.n l l0 l1).mono fun e w' ht => ⟨ht.1, ?_⟩
  unfold decE
  rcases ht.2 with ⟨a, rfl⟩ | ⟨a, q', hE', hX⟩
  · rw [if_neg a]; exact ⟨q, h, Ext.refl _ _⟩
  · rw [if_pos a]
    have hl : (decideF S l).le.length = S.le.length + 1 := by simp [decideF]
    exact ⟨q', h.to (by rw [hl]; exact hE') (inv_decide h.inv a) hX, hX⟩
theorem Sg.prop (h : Sg B w0 w b S q) (hcn : S.cs.length ≤ 20000) :
    Calls Tryz.prog 40 #[.pointer (some ⟨b, 0, none⟩)] w fun e w' => e = .returned (.int .i64 (propF S).2) ∧ ∃ q', Sg B w0 w' b (propF S).1 q' ∧ Ext q q' w w' :=
  (prop_any h.eng h.inv rfl hcn).mono fun e w' ⟨he, q', hE', hX⟩ => ⟨he, q', h.to (by rw [prop_len h.inv]; exact hE') (inv_prop h.inv).1 hX, hX⟩
/-- Is there such a level? -/
def levB (S : Eng) (v : Int) : Bool := Decidable.decide (0 ≤ v) && Decidable.decide (v ≤ (S.le.length : Int))
/-- What Back leaves of an engine. -/
def backE (S : Eng) (v : Int) : Eng := if levB S v = true then backF S v.toNat else S
theorem back_len {k : Nat} (hk : k ≤ S.le.length) : (backF S k).le.length = k := by
  unfold backF
  split
  · omega
  · show (S.le.take k).length = k
    rw [List.length_take]; omega
theorem Sg.back (h : Sg B w0 w b S q) (hcn : S.cs.length ≤ 20000) (v : Int) :
    Calls Tryz.prog 23 #[.pointer (some ⟨b, 0, none⟩), .int .i64 v] w fun e w' => e = .returned (.int .i64 (if levB S v = true then 0 else 51)) ∧ ∃ q', Sg B w0 w' b (backE S v) q' ∧ Ext q q' w w' := by
  unfold backE
  cases hl : levB S v with
  | false =>
    have hv : v < 0 ∨ (S.le.length : Int) < v := by
      unfold levB at hl
      rw [Bool.and_eq_false_iff] at hl
      rcases hl with e | e
      · have := of_decide_eq_false e; omega
      · have := of_decide_eq_false e; omega
    refine (eback_no h.eng v hv).mono fun e w' ⟨he, hw⟩ => ?_
    subst hw
    exact ⟨by rw [he]; rfl, q, by simpa using h, Ext.refl _ _⟩
  | true =>
    have hv : 0 ≤ v ∧ v ≤ (S.le.length : Int) := by
      unfold levB at hl
      simp only [Bool.and_eq_true, decide_eq_true_eq] at hl
      exact hl
    obtain ⟨k, rfl⟩ := Int.eq_ofNat_of_zero_le hv.1
    rw [show (k : Int).toNat = k from rfl]
    by_cases hk : k = S.le.length
    · subst hk
      refine (eback_same h.eng rfl).mono fun e w' ⟨he, hw⟩ => ?_
      subst hw
      have hb : backF S S.le.length = S := by unfold backF; rw [if_pos rfl]
      exact ⟨by rw [he]; rfl, q, by rw [hb]; simpa using h, Ext.refl _ _⟩
    · refine (eback_yes h.eng h.inv rfl hcn (show k < S.le.length by omega)).mono fun e w' ⟨he, q', hE', hX⟩ => ?_
      refine ⟨by rw [he]; rfl, q', ?_, hX⟩
      rw [if_pos rfl]
      exact h.to (by rw [back_len (by omega)]; exact hE') (inv_back h.inv (by omega)) hX
theorem Sg.clause (h : Sg B w0 w b S q) (id : Int) : Calls Tryz.prog 41 #[.pointer (some ⟨b, 0, none⟩), .int .i64 id] w (ClsTo S id w) := eclause_any h.eng h.inv.small id
theorem Sg.true_ (h : Sg B w0 w b S q) : Calls Tryz.prog 62 #[.pointer (some ⟨b, 0, none⟩)] w (TruTo S.L w) := etrue_any h.eng h.inv.small.n
/-- What the trail's own calls answer. -/
theorem Sg.asks (h : Sg B w0 w b S q) : w.cell? ⟨b, 0, none⟩ = some (.pointer (some ⟨q.bt, 0, none⟩)) ∧
    (∀ l, -2147483648 ≤ l → l ≤ 2147483647 → Calls Tryz.prog 36 #[.pointer (some ⟨q.bt, 0, none⟩), .int .i32 l] w fun e w' => e = .returned (.int .i64 (valZ S.L l)) ∧ w = w') ∧
    (∀ v, Calls Tryz.prog 89 #[.pointer (some ⟨q.bt, 0, none⟩), .int .i64 v] w fun e w' => e = .returned (.int .i64 (levZ S.L v)) ∧ w = w') ∧
    (∀ v, Calls Tryz.prog 72 #[.pointer (some ⟨q.bt, 0, none⟩), .int .i64 v] w fun e w' => e = .returned (.int .i64 (reaZ S.L v)) ∧ w = w') ∧
    (Calls Tryz.prog 71 #[.pointer (some ⟨q.bt, 0, none⟩)] w fun e w' => e = .returned (.int .i64 (S.n : Int)) ∧ w = w') ∧
    (Calls Tryz.prog 34 #[.pointer (some ⟨q.bt, 0, none⟩)] w fun e w' => e = .returned (.int .i64 (S.le.length : Int)) ∧ w = w') := by
  have hn := h.inv.small.n
  obtain ⟨F, gm, cm, ao, co, az, cz, hQ, hO, _⟩ := h.eng.trail
  exact ⟨h.eng.h0, fun l l0 l1 => tvalue_nat w hQ hO.pre (by omega) l l0 l1, fun v => tlevel_nat w hQ hO.pre (by omega) v, fun v => treason_nat w hQ hO.pre (by omega) v, tvars_nat w hQ (by omega), tdepth_nat w hQ⟩
end
end Go.Proofs.YtkckodpfhlpkgaaGreat
