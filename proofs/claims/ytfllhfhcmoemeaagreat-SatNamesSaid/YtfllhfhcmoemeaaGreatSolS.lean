/- A search's run, where one decide ends it; a solver's Solve: contracts. -/
import Derived.Test.YtfllhfhcmoemeaaGreatSolE
namespace Go.Proofs.YtfllhfhcmoemeaaGreat
open Go.Shelf Go.RowKit Go.Lib Go.Sort LitM TrailM EngM

section
variable {B bs bh n cp : Nat} {w0 w w' : World} {c : SolC} {S S' : Eng} {q q' : Pm} {F : Nat → Prop} {sc : Nat → Int} {wt : Nat → Bool} {vs : List Bool} {A : Option Addr} {ak bud bef : Int}
set_option maxHeartbeats 6400000 in
set_option maxRecDepth 100000 in
theorem srun_one (h : Srch B w0 w bs bh c S q F sc wt vs A n cp ak bud bef) (hcn : S.cs.length ≤ 20000) (hp : (propF S).2 < 0) (k : Int) (hk1 : 1 ≤ k) (hk2 : k ≤ 2) (P : World → Prop)
    (hdec : ∀ W q', Srch B w0 W bs bh c (propF S).1 q' F sc wt vs A n cp ak bud bef → Kf (fun k => q.own k ≠ .no) w W → Calls Tryz.prog 52 #[.pointer (some ⟨bh, 0, none⟩)] W fun e w' => e = .returned (.int .i64 k) ∧ P w') :
    Calls Tryz.prog 26 #[.pointer (some ⟨bh, 0, none⟩)] w fun e w' => e = .returned (.int .i64 k) ∧ P w' := by
  obtain ⟨a0, _⟩ := h.cells
  obtain ⟨_, _, b2, _⟩ := h.s.cells
  have HP := Lib.hid (h.s.eng.prop hcn)
  have hn : (propF S).1.n = S.n := by
    obtain ⟨_, k, _⟩ := inv_prop h.s.eng.inv
    exact k.n
  have HD : Hid (∀ W q', Sg B w0 W c.be (propF S).1 q' → Ext q q' w W → Calls Tryz.prog 52 #[.pointer (some ⟨bh, 0, none⟩)] W fun e w' => e = .returned (.int .i64 k) ∧ P w') := fun W q' hs hx => hdec W q' (h.ext hs hx hn) hx.kf
  have tp : decide (0 ≤ (propF S).2) = false := decide_eq_false (by omega)
  have tk : (k == -1) = false := by rw [beq_eq_false_iff_ne]; omega
  clear h hn hdec
  generalize (propF S).2 = id at *
  go_enter Tryz.func26, Tryz.ntmps26
  go_wp2_with fail
  go_loopw [3, 4] (fun v _ wr => Hid ((v = .int .i64 (-1) ∧ w = wr) ∨ (v = .int .i64 k ∧ P wr))) (fun v _ _ => (5 - intOf v).toNat)
  case atStart => exact Lib.hid (.inl ⟨rfl, rfl⟩)
  case round =>
    rcases hrel.out with ⟨rfl, rfl⟩ | ⟨rfl, hPw⟩
    · clear hrel
      go_wp2_with fail
      refine HP.out.mono ?_
      rintro e w1 ⟨rfl, q1, hs, hx⟩
      have HD1 := Lib.hid (HD.out w1 q1 hs hx)
      clear hs hx HP HD
      go_wp2_with fail
      refine HD1.out.mono ?_
      rintro e w2 ⟨rfl, hp2⟩
      have HR := Lib.hid hp2
      clear hp2 HD1
      go_wp2_with fail
      go_roundw
      case rel => exact Lib.hid (.inr ⟨rfl, HR.out⟩)
      case measure => simp [intOf]; omega
    · have HPW := Lib.hid hPw
      clear hrel hPw
      go_wp2_with fail
      go_ret
      exact ⟨rfl, HPW.out⟩
theorem srch_new {c1 : SolC} (h : Sol B w0 w bs c1 S q F sc wt vs) {V : World} (hV : Below w.heap.size w V) (hh : V.heap[w.heap.size]? = some (.cells #[.pointer (some ⟨bs, 0, none⟩), .slice A n cp, .int .i64 ak, .int .i64 bud, .int .i64 bef] 65 (0, 0))) :
    Srch B w0 V bs w.heap.size c1 S q F sc wt vs A n cp ak bud bef := by
  have hl := h.lt
  have hp := h.g.ltp
  refine ⟨h.below hV, hh, h.eng.fresh (Nat.le_refl _), fun e => ?_, h.eng.hs, by omega, by omega, fun e => ?_⟩
  · have := h.g.rk.foot _ e; omega
  · have := h.g.vr.lt _ e; omega
set_option maxHeartbeats 6400000 in
set_option maxRecDepth 100000 in
theorem ssolve_any (h : Sol B w0 w bs c S q F sc wt vs) (xs : List Int) (hr : Rd .i32 w w.heap.size A n xs) (h32 : In32 xs) (hl : n ≤ 10000) (hf : fitsB S.n xs = true) (hne : ¬ onB A bs) (k : Int) (P : World → Prop) (hP : ∀ W W', Below W.heap.size W W' → P W → P W')
    (hrun : ∀ W bh bef, Srch B w0 W bs bh { c with mod := .slice none 0 0, core := .slice none 0 0 } S q F sc wt vs A n cp 0 bud bef → Rd .i32 W W.heap.size A n xs → Calls Tryz.prog 26 #[.pointer (some ⟨bh, 0, none⟩)] W fun e w' => e = .returned (.int .i64 k) ∧ (∃ c' S' q' F' sc' wt' vs', Sol B w0 w' bs c' S' q' F' sc' wt' vs' ∧ S'.le = []) ∧ P w') :
    Calls Tryz.prog 10 #[.pointer (some ⟨bs, 0, none⟩), .int .i64 bud, .slice A n cp] w fun e w' => e = .returned (.tuple #[.int .i64 k, .int .i64 0]) ∧ P w' := by
  have HH := Lib.hid (shas_any h A n cp xs hr h32 (by omega))
  rw [hf] at HH
  have HN : Hid (∀ W, Below w.heap.size w W → Sol B w0 W bs c S q F sc wt vs ∧ Rd .i32 W W.heap.size A n xs) := fun W hW => ⟨h.below hW, (hr.below hW).more hW.size⟩
  have HRN := Lib.hid hrun
  have HPP := Lib.hid hP
  clear h hr hrun hP
  go_enter Tryz.func10, Tryz.ntmps10
  go_wp2_with fail
  refine HH.out.mono ?_
  rintro e w1 ⟨rfl, hb⟩
  obtain ⟨h1, r1⟩ := HN.out w1 hb
  obtain ⟨_, _, _, _, _, _, _, _, _, _, c10, c11, cf⟩ := h1.cells
  have h2 : Sol B w0 ((w1.setCell ⟨bs, 10, none⟩ (.slice none 0 0)).setCell ⟨bs, 11, none⟩ (.slice none 0 0)) bs { c with mod := .slice none 0 0, core := .slice none 0 0 } S q F sc wt vs :=
    (h1.store (c' := { c with mod := .slice none 0 0 }) rfl rfl rfl rfl rfl rfl rfl rfl).store rfl rfl rfl rfl rfl rfl rfl rfl
  have hk2 : Kf (fun i => i = bs) w1 ((w1.setCell ⟨bs, 10, none⟩ (.slice none 0 0)).setCell ⟨bs, 11, none⟩ (.slice none 0 0)) := ((Kf.refl (fun i => i = bs) w1).set (p := ⟨bs, 10, none⟩) (.inl rfl) _).set (p := ⟨bs, 11, none⟩) (.inl rfl) _
  have r2 : Rd .i32 ((w1.setCell ⟨bs, 10, none⟩ (.slice none 0 0)).setCell ⟨bs, 11, none⟩ (.slice none 0 0)) ((w1.setCell ⟨bs, 10, none⟩ (.slice none 0 0)).setCell ⟨bs, 11, none⟩ (.slice none 0 0)).heap.size A n xs := ⟨r1.len, fun h0 => by
    obtain ⟨g, o, e, hg, hc⟩ := r1.at_ h0
    have hgb : g ≠ bs := fun e' => hne (by rw [e, onB_some]; exact e'.symm)
    exact ⟨g, o, e, Nat.lt_of_lt_of_le hg hk2.size, fun j hj => (hk2.cell (p := ⟨g, o + j, none⟩) hg hgb).trans (hc j hj)⟩⟩
  go_upto_region 4 with (fail)
  obtain ⟨w2, hw2⟩ : ∃ w2, w2 = (w1.setCell ⟨bs, 10, none⟩ (.slice none 0 0)).setCell ⟨bs, 11, none⟩ (.slice none 0 0) := ⟨_, rfl⟩
  rw [← hw2]
  rw [← hw2] at h2 r2
  have HC := Lib.hid (sconf_any h2)
  have H2 := Lib.hid h2
  have R2 := Lib.hid r2
  clear hw2 h1 r1 h2 r2 hk2 hb c10 c11 cf HH HN
  go_wp2_with fail
  refine HC.out.mono ?_
  rintro e w' ⟨⟨kc, rfl, _, _⟩, rfl⟩
  go_upto_region 5 with (fail)
  have hb5 := (Below.refl w'.heap.size w').alloc (Nat.le_refl _) (.cells #[.pointer (some ⟨bs, 0, none⟩), .slice A n cp, .int .i64 0, .int .i64 bud, .int .i64 kc] 65)
  have HRu := Lib.hid (HRN.out _ _ kc (srch_new H2.out hb5 (blk_new w' _)) ((R2.out.below hb5).more hb5.size))
  clear hb5 HRN R2 H2 HC
  go_wp2_with fail
  refine HRu.out.mono ?_
  rintro e w3 ⟨rfl, ⟨c', S', q', F', sc', wt', vs', hS, hle⟩, hp⟩
  have HBk := Lib.hid (sback_none hS hle)
  have HP3 := Lib.hid hp
  clear hS hle hp HRu
  go_wp2_with fail
  refine HBk.out.mono ?_
  rintro e w4 ⟨rfl, hb4⟩
  have HP4 := Lib.hid (HPP.out _ _ hb4 HP3.out)
  clear hb4 HBk HP3
  go_wp2_with fail
  go_ret2
  exact ⟨rfl, HP4.out⟩
set_option maxHeartbeats 3200000 in
theorem ssolve_no (h : Sol B w0 w bs c S q F sc wt vs) (xs : List Int) (hr : Rd .i32 w w.heap.size A n xs) (h32 : In32 xs) (hl : n ≤ 10000) (hf : fitsB S.n xs = false) :
    Calls Tryz.prog 10 #[.pointer (some ⟨bs, 0, none⟩), .int .i64 bud, .slice A n cp] w fun e w' => e = .returned (.tuple #[.int .i64 0, .int .i64 81]) ∧ Below w.heap.size w w' := by
  have HH := Lib.hid (shas_any h A n cp xs hr h32 (by omega))
  rw [hf] at HH
  clear h hr
  go_enter Tryz.func10, Tryz.ntmps10
  go_wp2_with fail
  refine HH.out.mono ?_
  rintro e w1 ⟨rfl, hb⟩
  have HB := Lib.hid hb
  clear hb
  go_wp2_with fail
  go_ret2
  exact ⟨rfl, HB.out⟩
end
end Go.Proofs.YtfllhfhcmoemeaaGreat
