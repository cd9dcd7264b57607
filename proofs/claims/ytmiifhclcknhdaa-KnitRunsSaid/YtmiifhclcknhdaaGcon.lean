/- A circuit's cone: the closure that meets an edge, and cone. -/
import Derived.Test.YtmiifhclcknhdaaGmk
import Derived.Test.YtmiifhclcknhdaaGsrt
namespace Go.Proofs.Ytmiifhclcknhdaa
open Go.RowKit GatM

theorem info_gint : (Try.prog.info? 3).map (fun i => (i.zero, i.size, i.bytes)) = some (some (.int .i64 0), 1, 8) := by kernel_rfl
/-- The search in memory: the variables met (at b5) and gates (at b6). -/
structure CnAt (B : Nat) (w0 w : World) (b5 b6 : Nat) (m : MkC) (Ac : Option Addr) (cc : Nat) (C : List Nat) : Prop where
  v5 : w.heap[b5]? = some (.cells #[m.val] 82 (0, 0))
  v6 : w.heap[b6]? = some (.cells #[.slice Ac C.length cc] 45 (0, 0))
  mks : MkAt w m (conSt C)
  rw : SlN .i64 3 w Ac cc C
  l5 : B ≤ b5
  l6 : B ≤ b6
  lm : ∀ k, m.own k → B ≤ k
  la : ∀ k, onB Ac k → B ≤ k
  be : Below B w0 w
theorem apart {w : World} {a b : Nat} {x y : Array Value} {T U : TypeId} {f g : Nat × Nat} (h1 : w.heap[a]? = some (.cells x T f)) (h2 : w.heap[b]? = some (.cells y U g)) (h : T ≠ U) : a ≠ b := fun e => by
  rw [e, h2] at h1
  injection h1 with h1
  injection h1 with _ h1
  exact h h1.symm
section
variable {B : Nat} {w0 w w' : World} {b5 b6 : Nat} {m m' : MkC} {Ac : Option Addr} {cc : Nat} {C : List Nat}
theorem MkAt.no {T : TypeId} {x : Array Value} {b : Nat} {f : Nat × Nat} {st : Nat → Bool} (h : MkAt w m st) (hb : w.heap[b]? = some (.cells x T f)) (h1 : T ≠ 104) (h2 : T ≠ 106) : ¬ m.own b := by
  rintro (e | ⟨j, hj, e⟩)
  · obtain ⟨cur, h3, _⟩ := h.row
    exact apart hb h3 h1 e
  · obtain ⟨D, h3, _⟩ := h.blk j b hj e
    exact apart hb h3 h2 rfl
theorem CnAt.no5 (h : CnAt B w0 w b5 b6 m Ac cc C) : ¬ m.own b5 := h.mks.no h.v5 (by decide) (by decide)
theorem CnAt.no6 (h : CnAt B w0 w b5 b6 m Ac cc C) : ¬ m.own b6 := h.mks.no h.v6 (by decide) (by decide)
theorem CnAt.ne (h : CnAt B w0 w b5 b6 m Ac cc C) : b5 ≠ b6 := apart h.v5 h.v6 (by decide)
theorem CnAt.na (h : CnAt B w0 w b5 b6 m Ac cc C) {k : Nat} (hk : onB Ac k) : k ≠ b5 ∧ k ≠ b6 ∧ ¬ m.own k := by
  rcases h.rw with ⟨e, _⟩ | ⟨g, e, cur, h3, _⟩
  · rw [e] at hk; exact absurd hk (onB_none k)
  · rw [e, onB_some] at hk
    have hk : k = g := hk
    subst hk
    exact ⟨apart h3 h.v5 (by decide), apart h3 h.v6 (by decide), h.mks.no h3 (by decide) (by decide)⟩
theorem CnAt.below (h : CnAt B w0 w b5 b6 m Ac cc C) (hb : Below w.heap.size w w') (hB : B ≤ w.heap.size) : CnAt B w0 w' b5 b6 m Ac cc C :=
  ⟨by rw [hb.block _ (lt_of_heap h.v5)]; exact h.v5, by rw [hb.block _ (lt_of_heap h.v6)]; exact h.v6, h.mks.below hb, SlV.below h.rw hb, h.l5, h.l6, h.lm, h.la, h.be.trans (hb.mono hB)⟩
theorem conSt_push {C : List Nat} {n : Nat} (k : Nat) : conSt (C ++ [n]) k = markS (conSt C) n k := by
  unfold conSt markS
  by_cases e : k = n
  · rw [if_pos e, e]; simp
  · rw [if_neg e]; simp [e]
/-- A number that wasn't met is marked, and put behind the others. -/
theorem CnAt.push (h : CnAt B w0 w b5 b6 m Ac cc C) (hB : B ≤ w.heap.size) {n : Nat} {w2 Wx w4 : World} (hM : MkTo w w2 m m' (markS (conSt C) n)) (hb : Below w2.heap.size w2 Wx) {g4 c4 : Nat}
    (hr : RowV 3 1 w4 g4 (C.length + 1) c4 (appV (numF .i64 C) C.length [.int .i64 (n : Int)])) (hg : onB Ac g4 ∨ Wx.heap.size ≤ g4) (hk : Kf (fun k => onB Ac k) Wx w4) :
    (w4.cell? ⟨b6, 0, none⟩ = some (.slice Ac C.length cc) ∧ w4.frozen? ⟨b6, 0, none⟩ = false) ∧ CnAt B w0 (w4.setCell ⟨b6, 0, none⟩ (.slice (some ⟨g4, 0, none⟩) (C.length + 1) c4)) b5 b6 m' (some ⟨g4, 0, none⟩) c4 (C ++ [n]) := by
  have hl : (C ++ [n]).length = C.length + 1 := by simp
  have hs2 := hM.kf.size
  have hsx := hb.size
  have old : ∀ k, k < w.heap.size → ¬ m.own k → ¬ onB Ac k → w4.heap[k]? = w.heap[k]? := fun k h1 h2 h3 => by
    rw [hk.block k (by omega) h3, hb.block k (by omega)]
    exact hM.kf.block k h1 h2
  have a5 : ¬ onB Ac b5 := fun e => (h.na e).1 rfl
  have a6 : ¬ onB Ac b6 := fun e => (h.na e).2.1 rfl
  have e5 : w4.heap[b5]? = some (.cells #[m.val] 82 (0, 0)) := by rw [old _ (lt_of_heap h.v5) h.no5 a5]; exact h.v5
  have e6 : w4.heap[b6]? = some (.cells #[.slice Ac C.length cc] 45 (0, 0)) := by rw [old _ (lt_of_heap h.v6) h.no6 a6]; exact h.v6
  have hne : b6 ≠ g4 := by
    obtain ⟨cur, h3, _⟩ := hr
    exact apart e6 h3 (by decide)
  have ho : ∀ k, k ≠ b6 → (w4.setCell ⟨b6, 0, none⟩ (.slice (some ⟨g4, 0, none⟩) (C.length + 1) c4)).heap[k]? = w4.heap[k]? := fun k e => Below.heap_setCell _ _ _ _ e
  refine ⟨⟨by rw [Lib.cell_of_heap e6]; rfl, Lib.frozen_of_heap e6 _⟩, ⟨?_, ?_, ?_, ?_, h.l5, h.l6, ?_, ?_, ?_⟩⟩
  · rw [ho _ h.ne, e5, hM.val]
  · rw [Lib.heap_setCell_same e6, hl]; rfl
  · refine (hM.at_.same fun k hk' => ?_).congr fun k _ => conSt_push k
    have hlt := hM.at_.lt hk'
    have n6 : k ≠ b6 := fun e => by
      rcases hM.new k hk' with y | y
      · exact h.no6 (e ▸ y)
      · have := lt_of_heap h.v6; omega
    have na : ¬ onB Ac k := fun e => by
      rcases hM.new k hk' with y | y
      · exact (h.na e).2.2 y
      · have := h.rw.lt k e; omega
    rw [ho _ n6, hk.block k (by omega) na, hb.block k hlt]
  · show SlV 3 1 _ (some ⟨g4, 0, none⟩) (C ++ [n]).length c4 _
    rw [hl]
    exact .inr ⟨g4, rfl, (hr.other (a := ⟨b6, 0, none⟩) hne _).congr fun j hj => by
      have := numF_app (k := .i64) (l := C) (x := n) (j := j) (by rw [hl]; omega)
      rwa [Nat.mul_one] at this⟩
  · exact fun k hk' => by
      rcases hM.new k hk' with y | y
      · exact h.lm k y
      · omega
  · exact fun k hk' => by
      rw [onB_some] at hk'
      have hk' : k = g4 := hk'
      rcases hg with e | e
      · rw [hk']; exact h.la _ e
      · omega
  · refine (h.be.trans ?_).setCell h.l6 _
    refine ⟨(hk.os.trans hb.os).trans hM.kf.os, (hk.tape.trans hb.tape).trans hM.kf.tape, (hk.output.trans hb.output).trans hM.kf.output, by have := hk.size; omega, fun k hk' => ?_⟩
    exact old k (by omega) (fun e => by have := h.lm k e; omega) (fun e => by have := h.la k e; omega)
end
def MeetTo (B : Nat) (w0 : World) (b5 b6 nb : Nat) (C : List Nat) (e : Ending) (w' : World) : Prop :=
  e = .returned (.tuple #[]) ∧ ∃ m' Ac' cc', CnAt B w0 w' b5 b6 m' Ac' cc' C ∧ m'.nb = nb ∧ B ≤ w'.heap.size
set_option maxHeartbeats 1600000 in
set_option maxRecDepth 100000 in
theorem cmeet_any {B : Nat} {w0 w : World} {b5 b6 : Nat} {m : MkC} {Ac : Option Addr} {cc : Nat} {C : List Nat} (h : CnAt B w0 w b5 b6 m Ac cc C) (hB : B ≤ w.heap.size) (hC : C.length ≤ 99000) (e : Nat) (he : e < 4294967296) (hn : e / 2 < 4096 * m.nb) :
    Calls Try.prog 47 #[.int .u32 (e : Int), .pointer (some ⟨b5, 0, none⟩), .pointer (some ⟨b6, 0, none⟩)] w (MeetTo B w0 b5 b6 m.nb (meetC C (e / 2))) := by
  have HN := Lib.hid (gnum_any e w he)
  have HH := Lib.hid (mhas_any h.mks (e / 2) hn)
  have c5 : w.cell? ⟨b5, 0, none⟩ = some m.val := by rw [Lib.cell_of_heap h.v5]; rfl
  have HM := Lib.hid (madd_any h.mks (e / 2) hn)
  generalize hn' : e / 2 = n at *
  clear hn'
  have HCN := Lib.hid h
  cases hs : conSt C n with
  | true =>
    rw [hs] at HH
    have HE : Hid (MeetTo B w0 b5 b6 m.nb (meetC C n) (.returned (.tuple #[])) w) := by
      refine ⟨rfl, m, Ac, cc, ?_, rfl, hB⟩
      unfold conSt at hs
      unfold meetC
      rw [if_pos (of_decide_eq_true hs)]
      exact h
    clear h hs HM HCN
    go_enter Try.func47, Try.ntmps47
    go_wp2_with fail
    refine HN.out.mono ?_
    rintro e w' ⟨rfl, rfl⟩
    go_wp2_with fail
    refine HH.out.mono ?_
    rintro e w' ⟨rfl, rfl⟩
    go_wp2_with fail
    go_end0
    exact HE.out
  | false =>
    rw [hs] at HH
    have hmeet : meetC C n = C ++ [n] := by
      unfold conSt at hs
      unfold meetC
      rw [if_neg (of_decide_eq_false hs)]
    have HME := Lib.hid hmeet
    clear hs hmeet h
    go_enter Try.func47, Try.ntmps47
    go_wp2_with fail
    refine HN.out.mono ?_
    rintro e w' ⟨rfl, rfl⟩
    go_wp2_with fail
    refine HH.out.mono ?_
    rintro e w' ⟨rfl, rfl⟩
    go_wp2_with fail
    refine HM.out.mono ?_
    rintro e w2 ⟨rfl, m', hT⟩
    have e6 : w2.heap[b6]? = some (.cells #[.slice Ac C.length cc] 45 (0, 0)) := by rw [hT.kf.block _ (lt_of_heap HCN.out.v6) HCN.out.no6]; exact HCN.out.v6
    have c6 : w2.cell? ⟨b6, 0, none⟩ = some (.slice Ac C.length cc) := by rw [Lib.cell_of_heap e6]; rfl
    have hlt := lt_of_heap e6
    have hb1 : Below w2.heap.size w2 (w2.alloc (.cells #[.int .i64 (n : Int)] 3)) := (Below.refl _ _).alloc (Nat.le_refl _) _
    have HSL : Hid (SlV 3 1 (w2.alloc (.cells #[.int .i64 (n : Int)] 3)) Ac C.length cc (numF .i64 C)) := by
      refine SlV.below (SlV.same HCN.out.rw fun j hj => ?_) hb1
      exact hT.kf.block j (HCN.out.rw.lt j hj) (HCN.out.na hj).2.2
    have HF : Hid (∀ w4 g4 c4, RowV 3 1 w4 g4 (C.length + 1) c4 (appV (numF .i64 C) C.length [.int .i64 (n : Int)]) → (onB Ac g4 ∨ (w2.alloc (.cells #[.int .i64 (n : Int)] 3)).heap.size ≤ g4) → Kf (fun k => onB Ac k) (w2.alloc (.cells #[.int .i64 (n : Int)] 3)) w4 →
        w4.cell? ⟨b6, 0, none⟩ = some (.slice Ac C.length cc) ∧ w4.frozen? ⟨b6, 0, none⟩ = false ∧ MeetTo B w0 b5 b6 m.nb (meetC C n) (.returned (.tuple #[])) (w4.setCell ⟨b6, 0, none⟩ (.slice (some ⟨g4, 0, none⟩) (C.length + 1) c4))) := fun w4 g4 c4 a1 a2 a3 => by
      obtain ⟨⟨p1, p2⟩, p3⟩ := HCN.out.push hB hT hb1 a1 a2 a3
      refine ⟨p1, p2, rfl, m', _, _, by rw [HME.out]; exact p3, hT.nb, ?_⟩
      have h1 := hT.kf.size
      have h2 := hb1.size
      have h3 := a3.size
      simp only [World.setCell, Array.size_modify]
      omega
    clear hT e6 hb1 HM HCN HME
    go_wp2_with (at_builtin; refine wpList_append_sl _ rfl _ _ 45 3 rfl Try.underlying45 info_gint rfl (by decide) (by decide) Ac C.length cc (numF .i64 C) rfl HSL.out (by omega) ⟨w2.heap.size, 0, none⟩ 1 1 [.int .i64 (n : Int)] rfl rfl (box_news w2 3 _) (by simp [Value.oneCell']) (by omega) (by omega) ?_)
    intro g4 c4 w4 hr4 hg4 hk4
    obtain ⟨d0, d2, hF⟩ := HF.out w4 g4 c4 (by simpa using hr4) (by rcases hg4 with e | e; exact .inl e; exact .inr (by simpa using e)) (hk4 _ fun j hj => hj)
    have HF2 := Lib.hid hF
    clear hr4 hg4 hk4 HF HSL hF
    go_wp2_with fail
    go_end0
    exact HF2.out
end Go.Proofs.Ytmiifhclcknhdaa
