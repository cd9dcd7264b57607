/- TrailRuns is true: the statement Rows.TrailRunsSaid, without a condition. -/
import Derived.Test.YtcgihbffdejnbaaFBack
import Derived.Deep.RegionWith
import Derived.Deep.QuietTactic
import Derived.Deep.CutBlock
import Derived.Deep.RegionHeld3
namespace Go.Proofs.Ytcgihbffdejnbaa.TRuns
open Go.ChangeShapes Go.WideShapes Go.ChangeAt Go.RowKit LitM TrailM

/-- Both trails, alike. -/
def RunM (w wx : World) (sw b N d : Nat) (L : List Ent) (A : Option Addr) (c : Nat) : Prop :=
  wx.heap[sw]? = some (.cells #[.int .i64 (N : Int), .int .i64 (d : Int), .slice A L.length c] 36 (0, 0)) ∧ EnAt wx A c L ∧ LiveG w.heap.size w wx (fun k => k = sw ∨ onB A k) b N d L
/-- The code's trail, the plain one (V, D, M) behind it, and what is done in a box. -/
def RunX (w W : World) (sw bx b N d : Nat) (L : List Ent) (V D : Nat) (M : List Ent) (A : Option Addr) (c : Nat) (o : Obj) : Prop :=
  W.heap[sw]? = some (.cells #[.int .i64 (V : Int), .int .i64 (D : Int), .slice A M.length c] 36 (0, 0)) ∧ EnAt W A c M ∧ W.heap[bx]? = some o ∧ LiveG w.heap.size w W (fun k => (k = sw ∨ onB A k) ∨ k = bx) b N d L
section
variable {w W W' : World} {sw bx b N d V D : Nat} {L M : List Ent} {A : Option Addr} {c : Nat} {o : Obj}
theorem RunM.box (h : RunM w W sw b N d L A c) (o : Obj) : RunX w (W.alloc o) sw W.heap.size b N d L N d L A c o := by
  obtain ⟨h1, h2, h3⟩ := h
  exact ⟨(Below.heap_alloc _ _ _ (lt_of_heap h1)).trans h1, SlV.alloc h2 _, blk_new _ _, h3.alloc _⟩
theorem RunX.drew (h : RunX w W sw bx b N d L V D M A c o) (q : Nat) : RunX w (W.drewN q) sw bx b N d L V D M A c o := by
  obtain ⟨h1, h2, h3, h4⟩ := h
  exact ⟨h1, SlV.same h2 fun _ _ => rfl, h3, h4.drewN q⟩
theorem RunX.code {N' d' : Nat} {L' : List Ent} (h : RunX w W sw bx b N d L V D M A c o) (hL : LiveG w.heap.size w W' (fun k => (k = sw ∨ onB A k) ∨ k = bx) b N' d' L') (hs : SameG (fun k => (k = sw ∨ onB A k) ∨ k = bx) W W') : RunX w W' sw bx b N' d' L' V D M A c o := by
  obtain ⟨h1, h2, h3, h4⟩ := h
  exact ⟨(hs sw (.inl (.inl rfl))).trans h1, SlV.same h2 fun j hj => hs j (.inl (.inr hj)), (hs bx (.inr rfl)).trans h3, hL⟩
theorem RunX.done {A' : Option Addr} {c' : Nat} (h : RunX w W sw bx b N d L V D M A c o) (hB : Below W.heap.size W W') (hE : EnAt W' A' c' L) (hA : ∀ j, onB A' j → onB A j ∨ W.heap.size ≤ j) :
    RunM w (((W'.setCell ⟨sw, 0, none⟩ (.int .i64 (N : Int))).setCell ⟨sw, 1, none⟩ (.int .i64 (d : Int))).setCell ⟨sw, 2, none⟩ (.slice A' L.length c')) sw b N d L A' c' := by
  obtain ⟨h1, h2, h3, h4⟩ := h
  have hsw := (hB.block sw (lt_of_heap h1)).trans h1
  have hns : ¬ onB A' sw := fun e => by
    obtain ⟨a, ha, hj⟩ := e
    rcases hE with ⟨e1, _⟩ | ⟨g, e1, hr⟩
    · rw [e1] at ha; cases ha
    · rw [e1] at ha
      injection ha with ha
      subst ha
      obtain ⟨cur, hh, _⟩ := hr
      have hj' : g = sw := hj
      rw [hj', hsw] at hh
      injection hh with hh
      injection hh with _ hh
      exact absurd hh (by decide)
  have hG : LiveG w.heap.size w W' (fun k => k = sw ∨ onB A' k) b N d L := h4.more (Kf.of_below hB) fun k hk => by
    rcases hk with e | e
    · exact .inl (.inl (.inl e))
    · rcases hA k e with x | x
      · exact .inl (.inl (.inr x))
      · exact .inr ⟨x, hE.lt k e⟩
  refine ⟨three_set hsw _ _ _, SlV.other (SlV.other (SlV.other hE hns _) hns _) hns _, ((hG.set_ (p := ⟨sw, 0, none⟩) (.inl rfl) _).set_ (p := ⟨sw, 1, none⟩) (.inl rfl) _).set_ (p := ⟨sw, 2, none⟩) (.inl rfl) _⟩
end
theorem RunM.below {w W W' : World} {sw b N d : Nat} {L : List Ent} {A : Option Addr} {c : Nat} (h : RunM w W sw b N d L A c) (hB : Below W.heap.size W W') : RunM w W' sw b N d L A c := by
  obtain ⟨h1, h2, h3⟩ := h
  exact ⟨(hB.block sw (lt_of_heap h1)).trans h1, SlV.below h2 hB, h3.below hB⟩
/-- What Find answers of any variable. -/
theorem find_facts (L : List Ent) (v : Int) : ∃ (x0 : Int) (B : Bool), findV L v = .tuple #[.agg #[.int .i32 x0, .int .i64 (levZ L v), .int .i64 (reaZ L v)], .bool B] := by
  unfold findV levZ reaZ
  cases findE L v with
  | none => exact ⟨0, false, rfl⟩
  | some x => exact ⟨x.l, true, rfl⟩
/-- Both trails, alike, and what Find answered in a box. -/
def QS (w W : World) (sw b N d : Nat) (L : List Ent) (A : Option Addr) (c bx : Nat) (o : Obj) : Prop := RunM w W sw b N d L A c ∧ W.heap[bx]? = some o
theorem QS.below {w W W' : World} {sw b N d : Nat} {L : List Ent} {A : Option Addr} {c bx : Nat} {o : Obj} (h : QS w W sw b N d L A c bx o) (hB : Below W.heap.size W W') : QS w W' sw b N d L A c bx o :=
  ⟨h.1.below hB, (hB.block _ (lt_of_heap h.2)).trans h.2⟩
theorem QS.run {w W : World} {sw b N d : Nat} {L : List Ent} {A : Option Addr} {c bx : Nat} {o : Obj} (h : QS w W sw b N d L A c bx o) : RunM w W sw b N d L A c := h.1
theorem QS.drew {w W : World} {sw b N d : Nat} {L : List Ent} {A : Option Addr} {c bx : Nat} {o : Obj} (h : QS w W sw b N d L A c bx o) (q : Nat) : QS w (W.drewN q) sw b N d L A c bx o := h.below ⟨rfl, rfl, rfl, Nat.le_refl _, fun _ _ => rfl⟩
/-- Behind the switch: both sides answered the same. -/
def Sw (w : World) (sw b N : Nat) (e f : Value) (wx : World) : Prop := ∃ N' d' L' A' c' er, e = .int .i64 er ∧ f = .int .i64 er ∧ N' ≤ N + 1 ∧ RunM w wx sw b N' d' L' A' c'

set_option maxHeartbeats 6400000 in
set_option maxRecDepth 100000 in
theorem walk (vars : Int) (A : Option Addr) (n c : Nat) (w : World) (hx : Acts w w.heap.size A n) :
    Calls Try.prog 4 #[.int .i64 vars, .slice A n c] w fun e w' => e = .returned (.bool true) ∧ Below w.heap.size w w' := by
  have HX := Lib.hid hx
  clear hx
  go_enter Try.func4, Try.ntmps4
  go_wp2_with fail
  refine (talive_any w).mono ?_
  rintro e w1 ⟨rfl, hb1⟩
  by_cases hv : vars ≤ 40
  case neg =>
    have t1 : decide (40 < vars) = true := decide_eq_true (by omega)
    go_wp2_with fail
    go_ret
    exact ⟨rfl, hb1⟩
  have t1 : decide (40 < vars) = false := decide_eq_false (by omega)
  by_cases hn : n ≤ 80
  case neg =>
    have t3 : decide (80 < n) = true := decide_eq_true (by omega)
    have t4 : decide ((80 : Int) < (n : Int)) = true := decide_eq_true (by omega)
    go_wp2_with fail
    go_ret
    exact ⟨rfl, hb1⟩
  have t3 : decide (80 < n) = false := decide_eq_false (by omega)
  have t4 : decide ((80 : Int) < (n : Int)) = false := decide_eq_false (by omega)
  have hmx : max (0 : Int) vars = (vars.toNat : Int) := by omega
  go_wp2_with fail
  refine (tnew_any vars w1 (by omega)).mono ?_
  intro e w2 hm
  obtain ⟨b, rfl, h2⟩ := LiveT.make hm hb1 (Nat.le_refl _)
  have hN : vars.toNat ≤ 40 := by omega
  have HM : Hid (∀ x : Int, x = (vars.toNat : Int) → RunM w (w2.alloc (.cells #[.int .i64 x, .int .i64 0, .slice none 0 0] 36)) w2.heap.size b vars.toNat 0 [] none 0) := fun x hx => by
    subst hx
    refine ⟨blk_new _ _, SlV.nil _ _ _ _, (h2.liveG.alloc _).sub fun k hk => ?_⟩
    rcases hk with e | e
    · exact .inr e
    · exact absurd e (onB_none k)
  clear hm h2 hb1 t1 t3 t4 hmx
  go_upto_region 6 with (fail)
  go_cut [6] (fun p wx => p = .pointer (some ⟨w2.heap.size, 0, none⟩) ∧ Hid (RunM w wx w2.heap.size b vars.toNat 0 [] none 0))
  case first =>
    go_wp2_with fail
    all_goals (go_meet; exact ⟨rfl, HM.out _ (by omega)⟩)
  case rest =>
  obtain ⟨rfl, HM2⟩ := hcut
  clear HM
  have HM := Lib.hid HM2.out
  clear HM2
  generalize vars.toNat = N0 at *
  generalize w2.heap.size = sw at *
  go_wp2_with fail
  obtain ⟨wo, rfl⟩ : ∃ wo : World, wo = w := ⟨_, rfl⟩
  go_loopw [37] (fun v wr => ∃ k N d L A2 c2, v = .int .i64 ((k : Nat) : Int) ∧ k ≤ n ∧ N ≤ 40 + k ∧ RunM wo wr sw b N d L A2 c2) (fun v _ => n - (intOf v).toNat)
  case atStart => exact ⟨0, N0, 0, [], none, 0, rfl, by omega, by omega, HM.out⟩
  case round =>
    obtain ⟨k, N, d, L, A2, c2, rfl, hk, hNk, hM⟩ := hrel
    clear HM
    by_cases hlt : k < n
    · have tk : decide (k < n) = true := decide_eq_true hlt
      obtain ⟨bk, o, kk, l, y, rfl, hbk, ⟨i0, i1⟩, ck0, ck1, ck2⟩ := (HX.out.below hM.2.2.out) k hlt
      have hX := hM.box (.cells #[.int .i64 kk, .int .i32 l, .int .i64 y] 38)
      have HRX := Lib.hid hX
      obtain ⟨a0, a1, a2⟩ := cells3 hX.2.2.1
      clear hM hX
      go_upto_block 2 with (fail)
      go_cut [9, 10] (fun e f wx => Hid (Sw wo sw b N e f wx))
      case first =>
        have HOk := Lib.hid HRX.out.2.2.2.ok
        have HCE : Hid (∀ W N' d' L', RunX wo W sw wr.heap.size b N' d' L' N d L A2 c2 (.cells #[.int .i64 kk, .int .i32 l, .int .i64 y] 38) →
            (W.cell? ⟨sw, 0, none⟩ = some (.int .i64 (N : Int)) ∧ W.cell? ⟨sw, 1, none⟩ = some (.int .i64 (d : Int)) ∧ W.cell? ⟨sw, 2, none⟩ = some (.slice A2 L.length c2)) ∧
            (W.cell? ⟨wr.heap.size, 0, none⟩ = some (.int .i64 kk) ∧ W.cell? ⟨wr.heap.size, 1, none⟩ = some (.int .i32 l) ∧ W.cell? ⟨wr.heap.size, 2, none⟩ = some (.int .i64 y)) ∧ ∀ j, W.frozen? ⟨sw, j, none⟩ = false) := fun W N' d' L' h => ⟨cells3 h.1, cells3 h.2.2.1, Lib.frozen_of_heap h.1⟩
        have HSW : Hid (∀ W W' N' d' L', RunX wo W sw wr.heap.size b N' d' L' N d L A2 c2 (.cells #[.int .i64 kk, .int .i32 l, .int .i64 y] 38) → Below W.heap.size W W' →
            (W'.cell? ⟨sw, 0, none⟩ = some (.int .i64 (N : Int)) ∧ W'.cell? ⟨sw, 1, none⟩ = some (.int .i64 (d : Int)) ∧ W'.cell? ⟨sw, 2, none⟩ = some (.slice A2 L.length c2)) ∧ ∀ j, W'.frozen? ⟨sw, j, none⟩ = false) := fun W W' N' d' L' h hB => by
          have hb := (hB.block sw (lt_of_heap h.1)).trans h.1
          exact ⟨cells3 hb, Lib.frozen_of_heap hb⟩
        by_cases k0 : kk = 0
        · as_aux_lemma =>
            subst k0
            have HS := Lib.hid (HRX.out.2.2.2.set (by omega) l y i0 i1)
            go_wp2_with fail
            refine HS.out.mono ?_
            rintro e w4 ⟨rfl, hL4, hs4⟩
            have hX4 := HRX.out.code hL4 hs4
            obtain ⟨⟨s0, s1, s2⟩, ⟨v0, v1, v2⟩, sf⟩ := HCE.out _ _ _ _ hX4
            have HX4 := Lib.hid hX4
            have HP := Lib.hid (rset_any A2 c2 l y w4 hX4.2.1 HOk.out.pre (by omega) i0 i1)
            clear hL4 hs4 hX4 HS
            go_wp2_with fail
            refine HP.out.mono ?_
            rintro e w5 ⟨A5, c5, rfl, hE5, hA5, hB5⟩
            obtain ⟨⟨u0, u1, u2⟩, uf⟩ := HSW.out _ _ _ _ _ HX4.out hB5
            have HE : Hid (Sw wo sw b N (.int .i64 (errZ N L l)) (.int .i64 (errZ N L l)) (((w5.setCell ⟨sw, 0, none⟩ (.int .i64 (N : Int))).setCell ⟨sw, 1, none⟩ (.int .i64 (d : Int))).setCell ⟨sw, 2, none⟩ (.slice A5 (setL N d L l y).length c5))) := ⟨N, d, _, A5, c5, _, rfl, rfl, by omega, HX4.out.done hB5 hE5 hA5⟩
            clear hE5 hA5 hB5 HP HX4 HCE HSW
            go_wp2_with fail
            go_meet
            exact HE.out
        by_cases k1 : kk = 1
        · as_aux_lemma =>
            subst k1
            clear k0
            have HS := Lib.hid (HRX.out.2.2.2.decide (by omega) l i0 i1)
            have hdd := HOk.out.dle
            have hdl := HOk.out.len
            go_wp2_with fail
            refine HS.out.mono ?_
            rintro e w4 ⟨rfl, hL4, hs4⟩
            have hX4 := HRX.out.code hL4 hs4
            obtain ⟨⟨s0, s1, s2⟩, ⟨v0, v1, v2⟩, sf⟩ := HCE.out _ _ _ _ hX4
            have HX4 := Lib.hid hX4
            have HP := Lib.hid (rdecide_any A2 c2 l w4 hX4.2.1 HOk.out.pre (by omega) (by omega) i0 i1)
            clear hL4 hs4 hX4 HS
            go_wp2_with fail
            refine HP.out.mono ?_
            rintro e w5 ⟨A5, c5, rfl, hE5, hA5, hB5⟩
            obtain ⟨⟨u0, u1, u2⟩, uf⟩ := HSW.out _ _ _ _ _ HX4.out hB5
            have HE : Hid (Sw wo sw b N (.int .i64 (errZ N L l)) (.int .i64 (errZ N L l)) (((w5.setCell ⟨sw, 0, none⟩ (.int .i64 (N : Int))).setCell ⟨sw, 1, none⟩ (.int .i64 (decD N d L l : Int))).setCell ⟨sw, 2, none⟩ (.slice A5 (decL N d L l).length c5))) := ⟨N, _, _, A5, c5, _, rfl, rfl, by omega, HX4.out.done hB5 hE5 hA5⟩
            clear hE5 hA5 hB5 HP HX4 HCE HSW
            go_wp2_with fail
            go_meet
            exact HE.out
        by_cases k2 : kk = 2
        · as_aux_lemma =>
            subst k2
            clear k0 k1
            have HS := Lib.hid (HRX.out.2.2.2.back (by omega) y)
            go_wp2_with fail
            refine HS.out.mono ?_
            rintro e w4 ⟨A4, m4, c4, rfl, hR4, hm4, hb4, hL4, hs4⟩
            have hX4 := HRX.out.code hL4 hs4
            obtain ⟨⟨s0, s1, s2⟩, ⟨v0, v1, v2⟩, sf⟩ := HCE.out _ _ _ _ hX4
            have HX4 := Lib.hid hX4
            have HR4 := Lib.hid hR4
            have HP := Lib.hid (rback_any A2 c2 y w4 hX4.2.1 HOk.out.pre (by omega))
            clear hL4 hs4 hX4 HS hR4 hb4
            go_wp2_with fail
            refine HP.out.mono ?_
            rintro e w5 ⟨A5, c5, Ag, mg, cg, rfl, hE5, hA5, hRg, hmg, hB5⟩
            have hB6 : Below w4.heap.size w4 (w5.alloc (.cells #[.int .i64 (N : Int), .int .i64 (backD d y : Int), .slice A5 (backL d L y).length c5] 36)) := hB5.alloc hB5.size _
            have hR6 := (hRg.alloc (Nat.le_refl _) (.cells #[.int .i64 (N : Int), .int .i64 (backD d y : Int), .slice A5 (backL d L y).length c5] 36))
            have hR7 := (HR4.out.below hB6).more hB5.size
            have HSA := Lib.hid (same_any A4 Ag m4 c4 mg cg _ _ _ _ hR7 hR6 (by omega) (by omega))
            rw [show sameB (goneL d L y) (goneL d L y) = true from by rw [sameB_iff]] at HSA
            have hnb := blk_new w5 (.cells #[.int .i64 (N : Int), .int .i64 (backD d y : Int), .slice A5 (backL d L y).length c5] 36)
            obtain ⟨z0, z1, z2⟩ := cells3 hnb
            obtain ⟨⟨u0, u1, u2⟩, uf⟩ := HSW.out _ _ _ _ _ HX4.out hB6
            have HE : Hid (∀ q, Sw wo sw b N (.int .i64 (errB d y)) (.int .i64 (errB d y)) (((((w5.alloc (.cells #[.int .i64 (N : Int), .int .i64 (backD d y : Int), .slice A5 (backL d L y).length c5] 36)).drewN q).setCell ⟨sw, 0, none⟩ (.int .i64 (N : Int))).setCell ⟨sw, 1, none⟩ (.int .i64 (backD d y : Int))).setCell ⟨sw, 2, none⟩ (.slice A5 (backL d L y).length c5))) := fun q =>
              ⟨N, _, _, A5, c5, _, rfl, rfl, by omega, HX4.out.done (hB6.trans ⟨rfl, rfl, rfl, Nat.le_refl _, fun _ _ => rfl⟩) (SlV.same (SlV.alloc hE5 _) fun _ _ => rfl) hA5⟩
            clear hE5 hA5 hB5 HP HX4 HCE HSW hRg hB6 hR6 hR7 HR4 hnb
            generalize (backL d L y).length = m5 at *
            go_wp2_with fail
            refine HSA.out.mono ?_
            rintro e w7 ⟨rfl, q, rfl⟩
            have HEq := Lib.hid (HE.out q)
            clear HE HSA
            generalize w5.alloc (.cells #[.int .i64 (N : Int), .int .i64 (backD d y : Int), .slice A5 m5 c5] 36) = w6 at *
            generalize w5.heap.size = nb at *
            go_wp2_with fail
            go_meet
            exact HEq.out
        by_cases k3 : kk = 3
        · as_aux_lemma =>
            subst k3
            clear k0 k1 k2
            have hX1 := HRX.out.drew 1
            have HX1 : Hid (RunX wo (wr.alloc (.cells #[.int .i64 3, .int .i32 l, .int .i64 y] 38)).drew sw wr.heap.size b N d L N d L A2 c2 (.cells #[.int .i64 3, .int .i32 l, .int .i64 y] 38)) := hX1
            have HS : Hid (Calls Try.prog 17 #[.pointer (some ⟨b, 0, none⟩)] (wr.alloc (.cells #[.int .i64 3, .int .i32 l, .int .i64 y] 38)).drew fun e w' => e = .returned (.int .i64 ((N : Int) + 1)) ∧ LiveG wo.heap.size wo w' (fun k => (k = sw ∨ onB A2 k) ∨ k = wr.heap.size) b (N + 1) d L ∧ SameG (fun k => (k = sw ∨ onB A2 k) ∨ k = wr.heap.size) (wr.alloc (.cells #[.int .i64 3, .int .i32 l, .int .i64 y] 38)).drew w') := hX1.2.2.2.grow (by omega)
            obtain ⟨⟨s0, s1, s2⟩, _, sf⟩ := HCE.out _ _ _ _ HRX.out
            have tz : ((N : Int) + 1 != (N : Int) + 1) = false := by simp
            have hwN : IntKind.i64.wrap ((N : Int) + 1) = (N : Int) + 1 := by rw [IntKind.wrap_i64]; omega
            clear hX1
            go_wp2_with fail
            go_region_with ((go_at_call 17; refine HS.out.mono ?_; rintro e w4 ⟨rfl, hL4, hs4⟩; have HX4 := Lib.hid (HX1.out.code hL4 hs4); clear hL4 hs4; obtain ⟨⟨p0, p1, p2⟩, ⟨v0, v1, v2⟩, pf⟩ := HCE.out _ _ _ _ HX4.out))
            all_goals
              have HE : Hid (Sw wo sw b N (.int .i64 0) (.int .i64 0) (w4.setCell ⟨sw, 0, none⟩ (.int .i64 ((N : Int) + 1)))) := by
                obtain ⟨h1, h2, h3, h4⟩ := HX4.out
                have hns : ¬ onB A2 sw := fun e => by
                  obtain ⟨a, ha, hj⟩ := e
                  rcases h2 with ⟨e1, _⟩ | ⟨g, e1, hr⟩
                  · rw [e1] at ha; cases ha
                  · rw [e1] at ha
                    injection ha with ha
                    subst ha
                    obtain ⟨cur, hh, _⟩ := hr
                    have hj' : g = sw := hj
                    rw [hj', h1] at hh
                    injection hh with hh
                    injection hh with _ hh
                    exact absurd hh (by decide)
                exact ⟨N + 1, d, L, A2, c2, 0, rfl, rfl, by omega, (Lib.heap_setCell_same h1 _).trans (by rw [show ((N + 1 : Nat) : Int) = (N : Int) + 1 from by omega]; rfl), SlV.other h2 hns _, (h4.sub fun k hk => .inl hk).set_ (p := ⟨sw, 0, none⟩) (.inl rfl) _⟩
              clear HX4 HX1 HS HCE HSW
              go_wp2_with fail
              go_meet
              exact HE.out
        have q0 : (kk == 0) = false := by rw [beq_eq_false_iff_ne]; exact k0
        have q1 : (kk == 1) = false := by rw [beq_eq_false_iff_ne]; exact k1
        have q2 : (kk == 2) = false := by rw [beq_eq_false_iff_ne]; exact k2
        have q3 : (kk == 3) = false := by rw [beq_eq_false_iff_ne]; exact k3
        have HE : Hid (Sw wo sw b N (.int .i64 0) (.int .i64 0) (wr.alloc (.cells #[.int .i64 kk, .int .i32 l, .int .i64 y] 38))) := ⟨N, d, L, A2, c2, 0, rfl, rfl, by omega, HRX.out.1, HRX.out.2.1, HRX.out.2.2.2.sub fun k hk => .inl hk⟩
        clear HCE HSW k0 k1 k2 k3
        go_wp2_with fail
        go_meet
        exact HE.out
      case rest =>
        obtain ⟨N', d', L', A', c', er, rfl, rfl, hN', hM⟩ := hcut.out
        obtain ⟨s0, s1, s2⟩ := cells3 hM.1
        have HM := Lib.hid hM
        have hob := hM.2.1.bd
        obtain ⟨hob1, hob2⟩ := hob
        have hlen := hM.2.2.ok.len
        have j0 : (er != er) = false := by simp
        have j1 : ((N' : Int) != (N' : Int)) = false := by simp
        have j2 : ((d' : Int) != (d' : Int)) = false := by simp
        have j3 : ((L'.length : Int) != (L'.length : Int)) = false := by simp
        have HV : Hid (∀ q, Calls Try.prog 18 #[.pointer (some ⟨b, 0, none⟩)] (wc.drewN q) fun e w' => e = .returned (.int .i64 N') ∧ w' = wc.drewN q) := fun q => ((hM.2.2.drewN q).live.vars (by omega)).mono fun e w' ⟨h1, h2⟩ => ⟨h1, h2.symm⟩
        have HD : Hid (∀ q, Calls Try.prog 12 #[.pointer (some ⟨b, 0, none⟩)] (wc.drewN q) fun e w' => e = .returned (.int .i64 d') ∧ w' = wc.drewN q) := fun q => ((hM.2.2.drewN q).live.depth).mono fun e w' ⟨h1, h2⟩ => ⟨h1, h2.symm⟩
        have HZ : Hid (∀ q, Calls Try.prog 19 #[.pointer (some ⟨b, 0, none⟩)] (wc.drewN q) fun e w' => e = .returned (.int .i64 L'.length) ∧ w' = wc.drewN q) := fun q => ((hM.2.2.drewN q).live.size).mono fun e w' ⟨h1, h2⟩ => ⟨h1, h2.symm⟩
        clear hcut HRX a0 a1 a2 ck0 ck1 ck2 hM
        go_wp2_with fail
        go_quiet ((first | (go_at_call 18; exact Calls.quiet_of_same (HV.out _)) | (go_at_call 12; exact Calls.quiet_of_same (HD.out _)) | (go_at_call 19; exact Calls.quiet_of_same (HZ.out _))))
        go_wp2_with fail
        have HM0 : Hid (∀ q, RunM wo (wc.drewN q) sw b N' d' L' A' c') := fun q => HM.out.below ⟨rfl, rfl, rfl, Nat.le_refl _, fun _ _ => rfl⟩
        have HMq := Lib.hid (HM0.out nq)
        clear HV HD HZ HM0 HM s0 s1 s2
        generalize wc.drewN nq = w0 at HMq ⊢
        go_loopw [16] (fun iv wv => ∃ q : Nat, iv = .int .i64 ((q : Int) - 1) ∧ q ≤ N' + 3 ∧ RunM wo wv sw b N' d' L' A' c') (fun iv _ => N' + 4 - (intOf iv + 1).toNat)
        case atStart => exact ⟨0, rfl, by omega, HMq.out⟩
        case round =>
          obtain ⟨q, rfl, hq, hM⟩ := hrel
          clear HMq
          obtain ⟨s0, s1, s2⟩ := cells3 hM.1
          by_cases hqn : q ≤ N' + 2
          · as_aux_lemma =>
              have tq : decide ((q : Int) - 1 ≤ (N' : Int) + 1) = true := decide_eq_true (by omega)
              have HM := Lib.hid hM
              have HF := Lib.hid (rfind_any N' d' A' c' ((q : Int) - 1) _ hM.2.1 hM.2.2.ok.pre (by omega))
              clear hM
              go_wp2_with fail
              refine HF.out.mono ?_
              rintro e w5 ⟨he, hB5⟩
              obtain ⟨x0, xb, hx⟩ := find_facts L' ((q : Int) - 1)
              rw [hx] at he
              subst he
              have hv0 : -1 ≤ (q : Int) - 1 := by omega
              have hv1 : (q : Int) - 1 ≤ 200 := by omega
              have HN : Hid (N' ≤ 90000) := by unfold Hid; omega
              have HVL : Hid (∀ l W, -2147483648 ≤ l → l ≤ 2147483647 → ∀ bx o, QS wo W sw b N' d' L' A' c' bx o → Calls Try.prog 24 #[trV N' d' A' L'.length c', .int .i32 l] W fun e w' => e = .returned (.int .i64 (valZ L' l)) ∧ QS wo w' sw b N' d' L' A' c' bx o) := fun l W l0 l1 bx o h =>
                (rvalue_any N' d' A' c' l W h.1.2.1 h.1.2.2.ok.pre (by omega) l0 l1).mono fun e w' ⟨he, hB⟩ => ⟨he, h.below hB⟩
              have HXX : Hid ((q : Int) - 1 = (q : Int) - 1) := rfl
              obtain ⟨v, hv⟩ : ∃ v : Int, v = (q : Int) - 1 := ⟨_, rfl⟩
              rw [← hv] at hv0 hv1 HF tq ⊢
              rw [← hv] at hx
              clear HXX HF hx
              have HQV := Lib.hid hv
              clear hv
              have c1 : IntKind.i32.wrap v = v := by rw [IntKind.wrap_i32]; omega
              have c2 : IntKind.i32.wrap (-v) = -v := by rw [IntKind.wrap_i32]; omega
              have c3 : IntKind.i64.wrap (-v) = -v := by rw [IntKind.wrap_i64]; omega
              obtain ⟨X1, hX1⟩ : ∃ x, x = levZ L' v := ⟨_, rfl⟩
              obtain ⟨X2, hX2⟩ : ∃ x, x = reaZ L' v := ⟨_, rfl⟩
              obtain ⟨X3, hX3⟩ : ∃ x, x = valZ L' v := ⟨_, rfl⟩
              obtain ⟨X4, hX4⟩ : ∃ x, x = valZ L' (-v) := ⟨_, rfl⟩
              have HQ0 : Hid (QS wo (w5.alloc (.cells #[.int .i32 x0, .int .i64 X1, .int .i64 X2] 46)) sw b N' d' L' A' c' w5.heap.size (.cells #[.int .i32 x0, .int .i64 X1, .int .i64 X2] 46 (0, 0))) := ⟨(HM.out.below hB5).below ((Below.refl _ _).alloc (Nat.le_refl _) _), blk_new _ _⟩
              obtain ⟨bx, HBX⟩ : ∃ bx, Hid (bx = w5.heap.size) := ⟨_, rfl⟩
              rw [← HBX.out] at HQ0
              have HL : Hid (∀ W, QS wo W sw b N' d' L' A' c' bx (.cells #[.int .i32 x0, .int .i64 X1, .int .i64 X2] 46 (0, 0)) → Calls Try.prog 21 #[.pointer (some ⟨b, 0, none⟩), .int .i64 v] W fun e w' => e = .returned (.int .i64 X1) ∧ QS wo w' sw b N' d' L' A' c' bx (.cells #[.int .i32 x0, .int .i64 X1, .int .i64 X2] 46 (0, 0))) := fun W h =>
                (h.1.2.2.live.level HN.out v).mono fun e w' ⟨he, hw⟩ => ⟨by rw [he, hX1], hw ▸ h⟩
              have HR : Hid (∀ W, QS wo W sw b N' d' L' A' c' bx (.cells #[.int .i32 x0, .int .i64 X1, .int .i64 X2] 46 (0, 0)) → Calls Try.prog 22 #[.pointer (some ⟨b, 0, none⟩), .int .i64 v] W fun e w' => e = .returned (.int .i64 X2) ∧ QS wo w' sw b N' d' L' A' c' bx (.cells #[.int .i32 x0, .int .i64 X1, .int .i64 X2] 46 (0, 0))) := fun W h =>
                (h.1.2.2.live.reason HN.out v).mono fun e w' ⟨he, hw⟩ => ⟨by rw [he, hX2], hw ▸ h⟩
              have HVp : Hid (∀ W, QS wo W sw b N' d' L' A' c' bx (.cells #[.int .i32 x0, .int .i64 X1, .int .i64 X2] 46 (0, 0)) → Calls Try.prog 23 #[.pointer (some ⟨b, 0, none⟩), .int .i32 v] W fun e w' => e = .returned (.int .i64 X3) ∧ QS wo w' sw b N' d' L' A' c' bx (.cells #[.int .i32 x0, .int .i64 X1, .int .i64 X2] 46 (0, 0))) := fun W h =>
                (h.1.2.2.live.value HN.out v (by omega) (by omega)).mono fun e w' ⟨he, hw⟩ => ⟨by rw [he, hX3], hw ▸ h⟩
              have HVn : Hid (∀ W, QS wo W sw b N' d' L' A' c' bx (.cells #[.int .i32 x0, .int .i64 X1, .int .i64 X2] 46 (0, 0)) → Calls Try.prog 23 #[.pointer (some ⟨b, 0, none⟩), .int .i32 (-v)] W fun e w' => e = .returned (.int .i64 X4) ∧ QS wo w' sw b N' d' L' A' c' bx (.cells #[.int .i32 x0, .int .i64 X1, .int .i64 X2] 46 (0, 0))) := fun W h =>
                (h.1.2.2.live.value HN.out (-v) (by omega) (by omega)).mono fun e w' ⟨he, hw⟩ => ⟨by rw [he, hX4], hw ▸ h⟩
              have HRp : Hid (∀ W, QS wo W sw b N' d' L' A' c' bx (.cells #[.int .i32 x0, .int .i64 X1, .int .i64 X2] 46 (0, 0)) → Calls Try.prog 24 #[trV N' d' A' L'.length c', .int .i32 v] W fun e w' => e = .returned (.int .i64 X3) ∧ QS wo w' sw b N' d' L' A' c' bx (.cells #[.int .i32 x0, .int .i64 X1, .int .i64 X2] 46 (0, 0))) := fun W h =>
                (HVL.out v W (by omega) (by omega) _ _ h).mono fun e w' ⟨he, hw⟩ => ⟨by rw [he, hX3], hw⟩
              have HRn : Hid (∀ W, QS wo W sw b N' d' L' A' c' bx (.cells #[.int .i32 x0, .int .i64 X1, .int .i64 X2] 46 (0, 0)) → Calls Try.prog 24 #[trV N' d' A' L'.length c', .int .i32 (-v)] W fun e w' => e = .returned (.int .i64 X4) ∧ QS wo w' sw b N' d' L' A' c' bx (.cells #[.int .i32 x0, .int .i64 X1, .int .i64 X2] 46 (0, 0))) := fun W h =>
                (HVL.out (-v) W (by omega) (by omega) _ _ h).mono fun e w' ⟨he, hw⟩ => ⟨by rw [he, hX4], hw⟩
              have HKS : Hid (∀ W, QS wo W sw b N' d' L' A' c' bx (.cells #[.int .i32 x0, .int .i64 X1, .int .i64 X2] 46 (0, 0)) → QS wo W sw b N' d' L' A' c' bx (.cells #[.int .i32 x0, .int .i64 X1, .int .i64 X2] 46 (0, 0)) ∧ W.cell? ⟨bx, 1, none⟩ = some (.int .i64 X1) ∧ W.cell? ⟨bx, 2, none⟩ = some (.int .i64 X2) ∧ W.cell? ⟨sw, 0, none⟩ = some (.int .i64 (N' : Int)) ∧ W.cell? ⟨sw, 1, none⟩ = some (.int .i64 (d' : Int)) ∧ W.cell? ⟨sw, 2, none⟩ = some (.slice A' L'.length c')) := fun W h =>
                ⟨h, (cells3 h.2).2.1, (cells3 h.2).2.2, (cells3 h.1.1).1, (cells3 h.1.1).2.1, (cells3 h.1.1).2.2⟩
              rw [← hX1, ← hX2]
              clear hX1 hX2 hX3 hX4 HVL HM hB5 s0 s1 s2
              have y1 : (X1 != X1) = false := by simp
              have y2 : (X2 != X2) = false := by simp
              have y3 : (X3 != X3) = false := by simp
              have y4 : (X4 != X4) = false := by simp
              have hq1 : QS wo (w5.alloc (.cells #[.int .i32 x0, .int .i64 X1, .int .i64 X2] 46)).drew sw b N' d' L' A' c' bx (.cells #[.int .i32 x0, .int .i64 X1, .int .i64 X2] 46 (0, 0)) := HQ0.out.drew 1
              go_wp2_with fail
              rw [← HBX.out]
              go_region_held3 (fun W => QS wo W sw b N' d' L' A' c' bx (.cells #[.int .i32 x0, .int .i64 X1, .int .i64 X2] 46 (0, 0)) ∧ W.cell? ⟨bx, 1, none⟩ = some (.int .i64 X1) ∧ W.cell? ⟨bx, 2, none⟩ = some (.int .i64 X2) ∧ W.cell? ⟨sw, 0, none⟩ = some (.int .i64 (N' : Int)) ∧ W.cell? ⟨sw, 1, none⟩ = some (.int .i64 (d' : Int)) ∧ W.cell? ⟨sw, 2, none⟩ = some (.slice A' L'.length c'))
                (exact HKS.out _ (by assumption))
                (first | (go_at_call 21; (with_reducible refine (HL.out _ (by assumption)).mono ?_); rintro e wq ⟨rfl, hBq⟩) | (go_at_call 22; (with_reducible refine (HR.out _ (by assumption)).mono ?_); rintro e wq ⟨rfl, hBq⟩) | (go_at_call 23; (first | (with_reducible refine (HVp.out _ (by assumption)).mono ?_) | (with_reducible refine (HVn.out _ (by assumption)).mono ?_)); rintro e wq ⟨rfl, hBq⟩) | (go_at_call 24; (first | (with_reducible refine (HRp.out _ (by assumption)).mono ?_) | (with_reducible refine (HRn.out _ (by assumption)).mono ?_)); rintro e wq ⟨rfl, hBq⟩))
              all_goals
                go_wp2_with fail
                go_roundw
                case rel => exact ⟨q + 1, by congr 1; have := HQV.out; omega, by omega, QS.run (by assumption)⟩
                case measure => have := HQV.out; simp [intOf]; omega
          · as_aux_lemma =>
              have tq : decide ((q : Int) - 1 ≤ (N' : Int) + 1) = false := decide_eq_false (by omega)
              have HM := Lib.hid hM
              clear hM
              go_wp2_with fail
              go_loopw [19] (fun iv wi => ∃ q : Nat, iv = .int .i64 ((q : Int) - 1) ∧ q ≤ L'.length + 2 ∧ RunM wo wi sw b N' d' L' A' c') (fun iv _ => L'.length + 3 - (intOf iv + 1).toNat)
              case atStart => exact ⟨0, rfl, by omega, HM.out⟩
              case round =>
                clear HM s0 s1 s2
                obtain ⟨q, rfl, hq, hM⟩ := hrel
                obtain ⟨s0, s1, s2⟩ := cells3 hM.1
                have HA := Lib.hid (hM.2.2.live.at_ ((q : Int) - 1))
                have HM := Lib.hid hM
                by_cases hq2 : q ≤ L'.length + 1
                · have tq : decide ((q : Int) - 1 ≤ (L'.length : Int)) = true := decide_eq_true (by omega)
                  by_cases hin : 1 ≤ q ∧ q ≤ L'.length
                  · obtain ⟨i, rfl⟩ : ∃ i, q = i + 1 := ⟨q - 1, by omega⟩
                    have hi : i < L'.length := by omega
                    obtain ⟨g, rfl, _, x0, x1, x2⟩ := hM.2.1.at_ hi
                    have hz : atZ' L' (((i + 1 : Nat) : Int) - 1) = L'[i].l := by
                      unfold atZ'
                      rw [if_pos (by omega), show (((i + 1 : Nat) : Int) - 1).toNat = i from by omega, litE_at _ hi]
                    rw [hz] at HA
                    rw [show ((i + 1 : Nat) : Int) - 1 = (i : Int) from by omega] at tq HA ⊢
                    have t0 : decide (0 ≤ (i : Int)) = true := decide_eq_true (by omega)
                    have t1 : decide ((i : Int) < (L'.length : Int)) = true := decide_eq_true (by omega)
                    have t2 : decide (i < L'.length) = true := decide_eq_true hi
                    have t3 : decide (i ≤ L'.length) = true := decide_eq_true (by omega)
                    have HQ := Lib.hid hi
                    clear hM hz hin hq2
                    generalize L'[i].l = xl at *
                    have tx : (xl != xl) = false := by simp
                    go_wp2_with fail
                    refine HA.out.mono ?_
                    rintro e w' ⟨rfl, rfl⟩
                    go_wp2_with fail
                    go_roundw
                    case rel => exact ⟨i + 2, by congr 1; omega, by have := HQ.out; omega, HM.out⟩
                    case measure => have := HQ.out; simp [intOf]; omega
                  · have hz : atZ' L' ((q : Int) - 1) = 0 := by unfold atZ'; rw [if_neg (by omega)]
                    rw [hz] at HA
                    have HQ := Lib.hid hq2
                    by_cases h0 : q = 0
                    · subst h0
                      have t0 : decide (0 ≤ ((0 : Nat) : Int) - 1) = false := by decide
                      have e1 : ((0 : Nat) : Int) - 1 = -1 := by decide
                      rw [e1] at HA t0 tq ⊢
                      clear hM hz hin hq2
                      go_wp2_with fail
                      refine HA.out.mono ?_
                      rintro e w' ⟨rfl, rfl⟩
                      go_wp2_with fail
                      go_roundw
                      case rel => exact ⟨1, rfl, by omega, HM.out⟩
                      case measure => simp [intOf]
                    · obtain rfl : q = L'.length + 1 := by omega
                      rw [show ((L'.length + 1 : Nat) : Int) - 1 = (L'.length : Int) from by omega] at tq HA ⊢
                      have t0 : decide (0 ≤ (L'.length : Int)) = true := decide_eq_true (by omega)
                      have t1 : decide ((L'.length : Int) < (L'.length : Int)) = false := decide_eq_false (by omega)
                      have t2 : decide (L'.length < L'.length) = false := decide_eq_false (by omega)
                      have t3 : decide (L'.length ≤ L'.length) = true := decide_eq_true (by omega)
                      clear hM hz hin hq2
                      go_wp2_with fail
                      refine HA.out.mono ?_
                      rintro e w' ⟨rfl, rfl⟩
                      go_wp2_with fail
                      go_roundw
                      case rel => exact ⟨L'.length + 2, by congr 1; omega, by omega, HM.out⟩
                      case measure => simp [intOf]; omega
                · have tq : decide ((q : Int) - 1 ≤ (L'.length : Int)) = false := decide_eq_false (by omega)
                  clear hM HA
                  go_wp2_with fail
                  go_roundw
                  case rel => exact ⟨k + 1, N', d', L', A', c', by go_num, by omega, by omega, HM.out⟩
                  case measure => simp [intOf]; omega
    · have tk : decide (k < n) = false := decide_eq_false hlt
      have HB := Lib.hid hM.2.2.out
      clear hM
      go_wp2_with fail
      go_ret
      exact ⟨rfl, HB.out⟩

set_option maxHeartbeats 800000 in
set_option maxRecDepth 100000 in
theorem lifted (os : Os) (started : os.Started) (H : Type) (enc : TypeId × Value → H) :
    ReturnsInHanded {} Try.checked os 4 .any (Rows.trailRunsSpec.pre6 enc Try.prog Try.f4 Rows.trailRunsRow.domain false) (Rows.trailRunsSpec.post enc Try.prog Try.f4 false true false false) := by
  refine returnsInHanded_of_change (C := Try.checked) own_knob started (by kernel_rfl) Try.func4
    (ChangeSpec.witness6 (enc := enc) (C := Try.checked) false ⟨#[], #[.int .i64 0, .slice none 0 0], []⟩ 8 (by kernel_rfl) (by kernel_rfl) (by kernel_rfl) (by kernel_rfl)) ?_
  intro W base args ds gs before hval0 hW _ _
  have hval : ∀ (j : Nat) t v, Try.f4.params[j]? = some t → args[j]? = some v → Value.okWide Try.prog W .any base t v := hval0
  have hW' := hW
  obtain ⟨p, q, hA0, hV, rfl, _, _⟩ := hW
  have hA : DataW.TrodAll enc Try.prog W 0 (fun _ => true) true Try.f4.params.toList args.toList ds p := hA0
  rw [Try.params4] at hA hval
  obtain ⟨v0, v1, d0, d1, p0, p1, rfl, rfl, rfl, h0, h1⟩ := trodAll_two hA
  obtain ⟨rfl, rfl⟩ := trodVars_none hV
  obtain ⟨a0, rfl, rfl, rfl, w0⟩ := open_int Try.underlying3 (hval 0 3 v0 rfl rfl) h0
  obtain ⟨A1, n1, c1, rfl, hR1, _⟩ := open_acts (hval 1 33 v1 rfl rfl) h1
  clear hA0 hval0
  simp only [List.append_nil, List.nil_append] at hW'
  have hlt1 : ∀ y ∈ p1, y.block < W.heap.size := fun y hy => by simpa using hW'.lt y (by simp [hy])
  refine (walk a0 A1 n1 c1 W hR1).mono fun e W' ⟨he, hB⟩ => ?_
  subst he
  exact ⟨_, rfl, _, _, _, [], _, [], hW', trodAll_mk1 (shut_bool Try.underlying4 true), trodAll_mk2 (shut_int Try.underlying3 w0) (Below.trod laid_out (by kernel_rfl) (of_decide_eq_true (by kernel_rfl)) h1 hB hlt1), rfl, hB.frame _, fun h => by cases h⟩

theorem proved : Rows.TrailRunsSaid :=
  OpenClaim.holds_of_wide 4 Try.f4 rfl rfl rfl rfl rfl rfl rfl ⟨rfl, rfl, rfl, rfl, rfl⟩ rfl rfl rfl rfl rfl (by kernel_rfl) Try.func4 (by kernel_rfl)
    (of_decide_eq_true (by kernel_rfl)) (by unfold Func.isWrapper; first | (rw [if_pos (by decide +kernel)]; kernel_rfl) | (rw [if_neg (by decide +kernel)]; exact ⟨rfl, rfl⟩))
    (fun os started H enc _ => lifted os started H enc)
end Go.Proofs.Ytcgihbffdejnbaa.TRuns
namespace Go.Proofs.Ytcgihbffdejnbaa
theorem trailRuns_holds : Rows.TrailRunsSaid := TRuns.proved
#print axioms trailRuns_holds
end Go.Proofs.Ytcgihbffdejnbaa
