/- What a law of knit keeps: a Knit beside its circuit, the circuit's edges, the literals that it noted; numbers that came in. -/
import Derived.Test.YtmiifhclcknhdaaKntN
namespace Go.Proofs.Ytmiifhclcknhdaa
open Go.ChangeShapes Go.WideShapes Go.ChangeAt Go.RowKit GatM KntM Go.Lib

set_option maxRecDepth 100000 in
/-- Numbers that came in. -/
theorem open_kints {H : Type} {enc : TypeId × Value → H} {W : World} {base : Nat} {v : Value} {d : DataW H} {p : List MemPlace} (hok : Value.okWide Try.prog W .any base 45 v)
    (h : DataW.Trod enc Try.prog W 0 (fun _ => true) true 45 v d p) : ∃ A n c xs, v = .slice A n c ∧ Rd .i64 W W.heap.size A n xs ∧ n ≤ 9223372036854775807 := by
  obtain ⟨a0, len, cap, rfl⟩ := okWide_slice Try.underlying45 hok
  obtain ⟨fuel, hf⟩ := h
  rcases open_ints Try.underlying45 Try.underlying3 cells_int hf with ⟨hcs, _⟩ | ⟨a, len', cap', zs, hcs, _, hl, hmx, hz, _, hcell, hwz⟩
  · simp [Value.cells] at hcs
    obtain ⟨rfl, rfl, rfl⟩ := hcs
    exact ⟨none, 0, 0, [], rfl, Rd.nil, by omega⟩
  · simp [Value.cells] at hcs
    obtain ⟨rfl, rfl, rfl⟩ := hcs
    simp only [if_true] at hz
    have hm : len ≤ 9223372036854775807 := by unfold maxLen at hmx; omega
    refine ⟨some a, len, cap, zs.take len, rfl, ⟨by simp; omega, fun hn => ?_⟩, hm⟩
    obtain ⟨b, off, spot⟩ := a
    have hspot : spot = none := by simpa [Addr.add] using World.cell?_spot (hcell 0 (by omega))
    subst hspot
    have hcell' : ∀ j, j < zs.length → W.cell? ⟨b, off + j, none⟩ = some (.int .i64 (zs.getD j 0)) := fun j hj => by rw [← add_plain]; exact hcell j hj
    refine ⟨b, off, rfl, World.block_lt_of_cell? _ _ (hcell' 0 (by omega)), fun j hj => ?_⟩
    rw [hcell' j (by omega), getD_lt (show j < zs.length by omega), getD_lt (show j < (zs.take len).length by simp; omega)]
    simp
structure OnS (B : Nat) (w0 : World) (bk bs : Nat) (c : GrC) (gs : Gs) (gE e cap : Nat) (E : List Nat) (wr : World) (q : KnC) (m : Nat) (K : List Nat) (A : Option Addr) (cf : Nat) (F : List Int) : Prop where
  kl : KL B w0 wr q c gs 1000 m K
  hk : q.bk = bk
  hs : q.bs = bs
  er : RowV 25 1 wr gE e cap (numF .u32 E)
  eo : q.own gE = 0 ∧ B ≤ gE
  fr : SlV 38 1 wr A F.length cf (zF F)
  fo : ∀ k, onB A k → q.own k = 0 ∧ ¬ c.own k ∧ k ≠ gE ∧ B ≤ k
section
variable {B : Nat} {w0 wr w' : World} {bk bs : Nat} {c : GrC} {gs : Gs} {gE e cap : Nat} {E : List Nat} {q : KnC} {m : Nat} {K : List Nat} {A : Option Addr} {cf : Nat} {F : List Int}
theorem OnS.below (h : OnS B w0 bk bs c gs gE e cap E wr q m K A cf F) (hb : Below wr.heap.size wr w') : OnS B w0 bk bs c gs gE e cap E w' q m K A cf F :=
  ⟨h.kl.below hb, h.hk, h.hs, h.er.same (hb.block _ h.er.lt), h.eo, SlV.below h.fr hb, h.fo⟩
theorem OnS.lit (h : OnS B w0 bk bs c gs gE e cap E wr q m K A cf F) (hL : gs.length ≤ 1000) (x : Nat) (hx : x / 2 < gs.length) :
    Calls Try.prog 10 #[.pointer (some ⟨bk, 0, none⟩), .int .u32 (x : Int)] wr fun r w' => ∃ q' D, r = .returned (.tuple #[.int .i32 (lt (K ++ D) x), .int .i64 0]) ∧ OnS B w0 bk bs c gs gE e cap E w' q' gs.length (K ++ D) A cf F ∧ x / 2 ∈ K ++ D ∧ (x / 2 ∈ K → D = []) := by
  have hl := klit_any h.kl.kn hL hL (by omega) x hx
  rw [h.hk] at hl
  refine hl.mono ?_
  rintro r w' ⟨q', D, rfl, k2, t2, h3, h4, _⟩
  refine ⟨q', D, rfl, ⟨h.kl.to k2 t2, t2.bk.trans h.hk, t2.bs.trans h.hs, h.er.same (t2.other h.er.lt h.eo.1).1, ⟨(t2.other h.er.lt h.eo.1).2, h.eo.2⟩, SlV.same h.fr fun k hk => (t2.other (h.fr.lt k hk) (h.fo k hk).1).1, fun k hk => ?_⟩, h3, h4⟩
  obtain ⟨a1, a2, a3, a4⟩ := h.fo k hk
  exact ⟨(t2.other (h.fr.lt k hk) a1).2, a2, a3, a4⟩
/-- A literal more is noted. -/
theorem OnS.push (h : OnS B w0 bk bs c gs gE e cap E wr q m K A cf F) {z : Int} {w4 : World} {g4 c4 : Nat} (hr : RowV 38 1 w4 g4 (F.length + 1) c4 (appV (zF F) F.length [.int .i32 z]))
    (hg : onB A g4 ∨ (wr.alloc (.cells #[.int .i32 z] 38)).heap.size ≤ g4) (hk : Kf (fun j => onB A j) (wr.alloc (.cells #[.int .i32 z] 38)) w4) :
    OnS B w0 bk bs c gs gE e cap E w4 q m K (some ⟨g4, 0, none⟩) c4 (F ++ [z]) := by
  have hb : Below wr.heap.size wr (wr.alloc (.cells #[.int .i32 z] 38)) := (Below.refl _ _).alloc (Nat.le_refl _) _
  have hs : (wr.alloc (.cells #[.int .i32 z] 38)).heap.size = wr.heap.size + 1 := by simp
  have hks := hk.size
  have hBs := h.kl.lv.hB
  have hK0 : Kf (fun j => onB A j) wr w4 := (Kf.of_below hb).trans hk fun x hx => .inl hx
  have old : ∀ j, j < wr.heap.size → ¬ onB A j → w4.heap[j]? = wr.heap[j]? := fun j h1 h2 => hK0.block j h1 h2
  have hBw : Below B wr w4 := hK0.below hBs fun x hx => (h.fo x hx).2.2.2
  have hl : (F ++ [z]).length = F.length + 1 := by simp
  have hkn : KN w4 q c gs 1000 m K := ⟨h.kl.kn.at_.kept (hK0.mono fun x hx => .inl (h.fo x hx).1), h.kl.kn.gr.same fun k hk => old k (h.kl.kn.gr.lt hk) (fun e => (h.fo k e).2.1 hk), h.kl.kn.wf, h.kl.kn.ok, h.kl.kn.km, h.kl.kn.ap⟩
  refine ⟨⟨hkn, h.kl.lv.keptN hBw (fun k hk => old k (h.kl.kn.gr.lt hk) (fun e => (h.fo k e).2.1 hk)) (by omega), h.kl.lo⟩, h.hk, h.hs, h.er.same (old gE h.er.lt fun e => (h.fo gE e).2.2.1 rfl), h.eo, ?_, fun k hk' => ?_⟩
  · rw [hl]
    refine .inr ⟨g4, rfl, hr.congr fun j hj => ?_⟩
    unfold zF appV
    by_cases e1 : j < F.length
    · rw [if_pos e1]
      simp [List.getD, List.getElem?_append_left e1]
    · obtain rfl : j = F.length := by omega
      rw [if_neg e1, Nat.sub_self, List.getD, List.getElem?_append_right (Nat.le_refl _)]
      simp
  · rw [onB_some] at hk'
    have hk' : k = g4 := hk'
    subst hk'
    rcases hg with e1 | e1
    · exact h.fo k e1
    · have hfr := h.kl.kn.at_.fr k (by omega)
      exact ⟨hfr, fun ho => by have := h.kl.kn.gr.lt ho; omega, fun e2 => by have := h.er.lt; omega, by omega⟩
end
end Go.Proofs.Ytmiifhclcknhdaa
