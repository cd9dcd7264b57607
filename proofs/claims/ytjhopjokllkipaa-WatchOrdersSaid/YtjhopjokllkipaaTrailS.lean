/- A trail as its callers see it; Set, Decide. -/
import Derived.Test.YtjhopjokllkipaaTrailW
import Derived.Deep.DeepCutAuto
import Derived.Deep.RegionWith
namespace Go.Proofs.Ytjhopjokllkipaa
open Go.RowKit LitM TrailM

/-- A trail of n variables at block b, d levels deep, in which L is true, in order; F: its blocks. -/
def TrailAt (w : World) (b : Nat) (F : Nat → Prop) (n d : Nat) (L : List Ent) : Prop :=
  ∃ gm cm ao co az cs, TQ w b gm cm ao co az cs n d L ∧ Ok n d L ∧ F = FootT b gm ao az
/-- What a call leaves that has such a trail in hand. -/
def TrailTo (F : Nat → Prop) (w w' : World) (b n d : Nat) (L : List Ent) : Prop :=
  ∃ F', TrailAt w' b F' n d L ∧ (∀ k, F' k → F k ∨ w.heap.size ≤ k) ∧ Kf F w w'
section
variable {b n d : Nat} {F : Nat → Prop} {L : List Ent}
theorem TrailAt.foot {w : World} (h : TrailAt w b F n d L) : ∀ k, F k → k < w.heap.size := by
  obtain ⟨gm, cm, ao, co, az, cs, hQ, hO, rfl⟩ := h
  exact hQ.foot
theorem TrailAt.kept {w w' : World} {G : Nat → Prop} (h : TrailAt w b F n d L) (hk : Kf G w w') (hd : ∀ k, F k → ¬ G k) : TrailAt w' b F n d L := by
  obtain ⟨gm, cm, ao, co, az, cs, hQ, hO, rfl⟩ := h
  exact ⟨gm, cm, ao, co, az, cs, hQ.kept hk hd, hO, rfl⟩
theorem TrailAt.below {w w' : World} (h : TrailAt w b F n d L) (hk : Below w.heap.size w w') : TrailAt w' b F n d L :=
  h.kept (G := fun _ => False) (Kf.of_below hk) (fun _ _ h => h)
theorem TrailAt.ok {w : World} (h : TrailAt w b F n d L) : Ok n d L := by
  obtain ⟨gm, cm, ao, co, az, cs, hQ, hO, rfl⟩ := h
  exact hO
theorem TrailTo.here {w : World} (h : TrailAt w b F n d L) : TrailTo F w w b n d L := ⟨F, h, fun _ h => .inl h, Kf.refl _ _⟩

/-- The error of a Set or a Decide. -/
def errZ (n : Nat) (L : List Ent) (l : Int) : Int := if one l = false ∨ (n : Int) < varZ l then 41 else if (findE L (varZ l)).isSome = true then 42 else 0
theorem errZ_cases (n : Nat) (L : List Ent) (l : Int) : ((one l = false ∨ (n : Int) < varZ l) ∧ errZ n L l = 41) ∨ ((findE L (varZ l)).isSome = true ∧ errZ n L l = 42) ∨
    (one l = true ∧ ∃ q : Nat, varZ l = (q : Int) ∧ 1 ≤ q ∧ q ≤ n ∧ findE L (varZ l) = none ∧ errZ n L l = 0) := by
  unfold errZ
  by_cases h : one l = false ∨ (n : Int) < varZ l
  · rw [if_pos h]; exact .inl ⟨h, rfl⟩
  · rw [if_neg h]
    by_cases h2 : (findE L (varZ l)).isSome = true
    · rw [if_pos h2]; exact .inr (.inl ⟨h2, rfl⟩)
    · rw [if_neg h2]
      have h1 : one l = true := by cases ho : one l with | true => rfl | false => exact absurd (.inl ho) h
      have hv := varZ_ge h1
      refine .inr (.inr ⟨h1, (varZ l).toNat, by omega, by omega, by omega, ?_, rfl⟩)
      cases hf : findE L (varZ l) with
      | none => rfl
      | some x => rw [hf] at h2; exact absurd rfl h2

set_option maxHeartbeats 1600000 in
theorem set_no (w : World) (h : TrailAt w b F n d L) (hn : n ≤ 300000) (l r : Int) (l0 : -2147483648 ≤ l) (l1 : l ≤ 2147483647) (he : errZ n L l ≠ 0) :
    Calls Try.prog 80 #[.pointer (some ⟨b, 0, none⟩), .int .i32 l, .int .i64 r] w fun e w' => e = .returned (.int .i64 (errZ n L l)) ∧ w = w' := by
  obtain ⟨gm, cm, ao, co, az, cs, hQ, hO, rfl⟩ := h
  rcases errZ_cases n L l with ⟨hb, he⟩ | ⟨hs, he⟩ | ⟨_, q, hq, q1, q2, hs, he'⟩
  · have HF := Lib.hid (free_bad w hQ hn l l0 l1 hb)
    rw [he]
    clear hQ hO hb he
    go_enter Try.func80, Try.ntmps80
    go_wp2_with fail
    refine HF.out.mono ?_
    rintro e w' ⟨rfl, rfl⟩
    go_wp2_with fail
    go_ret
    exact ⟨rfl, rfl⟩
  · have HF := Lib.hid (free_set w hQ hO.pre hn l l0 l1 hs)
    rw [he]
    clear hQ hO hs he
    go_enter Try.func80, Try.ntmps80
    go_wp2_with fail
    refine HF.out.mono ?_
    rintro e w' ⟨rfl, rfl⟩
    go_wp2_with fail
    go_ret
    exact ⟨rfl, rfl⟩
  · exact absurd he' he
theorem stC_snoc (L : List Ent) (x : Ent) {j : Nat} (h : j < x.lv) : stC (L ++ [x]) j = stC L j := by
  unfold stC; rw [upTo_snoc L x j h]
set_option maxHeartbeats 1600000 in
theorem set_yes (w : World) (h : TrailAt w b F n d L) (hn : n ≤ 100000) (l r : Int) (l0 : -2147483648 ≤ l) (l1 : l ≤ 2147483647) (he : errZ n L l = 0) :
    Calls Try.prog 80 #[.pointer (some ⟨b, 0, none⟩), .int .i32 l, .int .i64 r] w fun e w' => e = .returned (.int .i64 0) ∧ TrailTo F w w' b n d (L ++ [⟨l, d, r⟩]) := by
  obtain ⟨gm, cm, ao, co, az, cs, hQ, hO, rfl⟩ := h
  rcases errZ_cases n L l with ⟨_, he'⟩ | ⟨_, he'⟩ | ⟨ho, q, hq, q1, q2, hs, _⟩
  · omega
  · omega
  · have HF := Lib.hid (free_yes w hQ hO.pre (by omega) l l0 l1 q hq q1 q2 hs)
    have hl := hO.len
    have HP := Lib.hid (put_nat w hQ (by omega) l r q hq q2 hs)
    have HO := Lib.hid (hO.set (r := r) ho (by omega) hs)
    clear hQ hO hs he hq ho
    go_enter Try.func80, Try.ntmps80
    go_wp2_with fail
    refine HF.out.mono ?_
    rintro e w' ⟨rfl, rfl⟩
    go_wp2_with fail
    refine HP.out.mono ?_
    rintro e w' ⟨g', c', rfl, hT, hg, hk⟩
    have HE : Hid (TrailTo (FootT b gm ao az) w w' b n d (L ++ [⟨l, d, r⟩])) := by
      refine ⟨FootT b gm (some ⟨g', 0, none⟩) az, ⟨gm, cm, some ⟨g', 0, none⟩, c', az, cs, hT.congr (fun _ _ => rfl) (fun _ _ => rfl) (fun j hj => stC_snoc L _ hj), HO.out, rfl⟩, ?_, hk⟩
      rintro k (e | e | e | e)
      · exact .inl (.inl e)
      · exact .inl (.inr (.inl e))
      · rw [onB_some] at e
        subst e
        rcases hg with x | x
        · exact .inl (.inr (.inr (.inl x)))
        · exact .inr x
      · exact .inl (.inr (.inr (.inr e)))
    clear hT hg hk HO HP HF
    go_wp2_with fail
    go_ret
    exact ⟨rfl, HE.out⟩
set_option maxHeartbeats 1600000 in
theorem decide_no (w : World) (h : TrailAt w b F n d L) (hn : n ≤ 300000) (l : Int) (l0 : -2147483648 ≤ l) (l1 : l ≤ 2147483647) (he : errZ n L l ≠ 0) :
    Calls Try.prog 42 #[.pointer (some ⟨b, 0, none⟩), .int .i32 l] w fun e w' => e = .returned (.int .i64 (errZ n L l)) ∧ w = w' := by
  obtain ⟨gm, cm, ao, co, az, cs, hQ, hO, rfl⟩ := h
  rcases errZ_cases n L l with ⟨hb, he⟩ | ⟨hs, he⟩ | ⟨_, q, hq, q1, q2, hs, he'⟩
  · have HF := Lib.hid (free_bad w hQ hn l l0 l1 hb)
    rw [he]
    clear hQ hO hb he
    go_enter Try.func42, Try.ntmps42
    go_wp2_with fail
    refine HF.out.mono ?_
    rintro e w' ⟨rfl, rfl⟩
    go_wp2_with fail
    go_ret
    exact ⟨rfl, rfl⟩
  · have HF := Lib.hid (free_set w hQ hO.pre hn l l0 l1 hs)
    rw [he]
    clear hQ hO hs he
    go_enter Try.func42, Try.ntmps42
    go_wp2_with fail
    refine HF.out.mono ?_
    rintro e w' ⟨rfl, rfl⟩
    go_wp2_with fail
    go_ret
    exact ⟨rfl, rfl⟩
  · exact absurd he' he

/-- Behind the level's begin. -/
def Deep (w : World) (b gm cm n : Nat) (ao : Option Addr) (co : Nat) (az : Option Addr) (d : Nat) (L : List Ent) (wx : World) : Prop :=
  ∃ g' c', T3 wx b gm cm n ao L.length co (some ⟨g', 0, none⟩) (d + 1) c' (mkC L) (orC L) (stC L) ∧ (onB az g' ∨ w.heap.size ≤ g') ∧ Kf (FootT b gm ao az) w wx
theorem stC_deep {n : Nat} (hO : Pre n d L) (j : Nat) (hj : j < d + 1) : stC L j = appV (stC L) d [.int .i64 (L.length : Int)] j := by
  unfold appV
  by_cases e : j < d
  · rw [if_pos e]
  · have : j = d := by omega
    subst this
    rw [if_neg e]
    unfold stC; rw [upTo_all hO]; simp
theorem deep_of {gm cm co cs : Nat} {ao az : Option Addr} {w W1 w2 : World} {g' c' : Nat} (hO : Pre n d L) (hQ : TQ W1 b gm cm ao co az cs n d L) (hK : Kf (FootT b gm ao az) w W1) {o : Obj} (hr : RowV 3 1 w2 g' (d + 1) c' (appV (stC L) d [.int .i64 (L.length : Int)]))
    (hg : onB az g' ∨ (W1.alloc o).heap.size ≤ g') (hk : Kf (fun k => onB az k) (W1.alloc o) w2) : Deep w b gm cm n ao co az d L (w2.setCell ⟨b, 2, none⟩ (.slice (some ⟨g', 0, none⟩) (d + 1) c')) := by
  refine ⟨g', c', hQ.pushS (hr.congr fun j hj => stC_deep hO j (by omega)) hg hk, ?_, ((hK.alloc _).trans hk (fun k hk => .inl (.inr (.inr (.inr hk))))).set (.inl (.inl rfl)) _⟩
  rcases hg with e | e
  · exact .inl e
  · exact .inr (by have := hK.size; simp at e; omega)
set_option maxHeartbeats 6400000 in
set_option maxRecDepth 100000 in
theorem decide_yes (w : World) (h : TrailAt w b F n d L) (hn : n ≤ 100000) (l : Int) (l0 : -2147483648 ≤ l) (l1 : l ≤ 2147483647) (he : errZ n L l = 0) :
    Calls Try.prog 42 #[.pointer (some ⟨b, 0, none⟩), .int .i32 l] w fun e w' => e = .returned (.int .i64 0) ∧ TrailTo F w w' b n (d + 1) (L ++ [⟨l, d + 1, -1⟩]) := by
  obtain ⟨gm, cm, ao, co, az, cs, hQ, hO, rfl⟩ := h
  rcases errZ_cases n L l with ⟨_, he'⟩ | ⟨_, he'⟩ | ⟨ho, q, hq, q1, q2, hs, _⟩
  · omega
  · omega
  · have HF := Lib.hid (free_yes w hQ hO.pre (by omega) l l0 l1 q hq q1 q2 hs)
    have hl := hO.len
    have hd := hO.dle
    have HP : Hid (∀ W g' c', T3 W b gm cm n ao L.length co (some ⟨g', 0, none⟩) (d + 1) c' (mkC L) (orC L) (stC L) → Calls Try.prog 68 #[.pointer (some ⟨b, 0, none⟩), .pointer (some ⟨gm, q * 3, none⟩), .int .i32 l, .int .i64 (-1)] W (PutTo b gm cm n ao (some ⟨g', 0, none⟩) (d + 1) c' (stC L) (L ++ [⟨l, d + 1, -1⟩]) W)) :=
      fun W g' c' hT => put_nat W hT (by omega) l (-1) q hq q2 hs
    have HO := Lib.hid (hO.decide (r := -1) ho (by omega) hs)
    have HP0 := Lib.hid hO.pre
    have HQ := Lib.hid hQ
    have HL : Hid (Calls Try.prog 34 #[.pointer (some ⟨b, 0, none⟩)] w.drew fun e w' => e = .returned (.int .i64 L.length) ∧ w.drew = w') := tlen_nat w.drew (hQ.drewN 1)
    have c2 := hQ.h2
    have fz := hQ.free 2
    have hb := hQ.lt
    have hbz := hQ.ne.2.2.1
    have HKT : Hid (∀ Wa Wb, Kf (FootT b gm ao az) w Wa → Kf (fun j => onB az j) Wa Wb → Kf (FootT b gm ao az) w Wb) := fun Wa Wb h1 h2 => h1.trans h2 (fun k hk => .inl (.inr (.inr (.inr hk))))
    clear hO hs he hq ho hQ
    go_enter Try.func42, Try.ntmps42
    go_wp2_with fail
    refine HF.out.mono ?_
    rintro e w' ⟨rfl, rfl⟩
    clear HF
    go_wp2_with fail
    go_cut [] (fun wx => Hid (Deep w b gm cm n ao co az d L wx))
    case first =>
      refine wp_region_any (by kernel_rfl) ?_
      change wpAny _ _ _ _ _ _ _ (World.drew _)
      refine wpAny_take (i := 0) (v := ?_) rfl (by kernel_rfl) (by kernel_rfl) (by kernel_rfl) (fun _ _ _ h => h) (Or.inl ⟨by rfl, ?_⟩) ?_
      rotate_left 1
      · (intro w; go_simp <;> with_reducible rfl)
      refine wpAny_take (i := 1) (v := ?_) rfl (by kernel_rfl) (by kernel_rfl) (by kernel_rfl) (fun _ _ _ h => h) (Or.inl ⟨by rfl, ?_⟩) ?_
      rotate_left 1
      · (intro w; go_simp <;> with_reducible rfl)
      refine wpAny_take (i := 2) (v := ?_) rfl (by kernel_rfl) (by kernel_rfl) (by kernel_rfl) (fun _ _ _ h => h) (Or.inl ⟨by rfl, ?_⟩) ?_
      rotate_left 1
      · (intro w; go_simp <;> with_reducible rfl)
      refine wpAny_take (i := 3) (v := ?_) rfl (by kernel_rfl) (by kernel_rfl) (by kernel_rfl) (fun _ _ _ h => h) (Or.inl ⟨by rfl, ?_⟩) ?_
      rotate_left 1
      · (intro w; go_simp <;> with_reducible rfl)
      refine wpAny_take (i := 5) (v := ?_) rfl (by kernel_rfl) (by kernel_rfl) (by kernel_rfl) (fun _ _ _ h => h) (Or.inl ⟨by rfl, ?_⟩) ?_
      rotate_left 1
      · (intro w; go_simp <;> with_reducible rfl)
      refine wpAny_ready (rs := [4, 6]) (by kernel_rfl) (by simp) ?_
      refine AllReady.cons rfl (fun K hK => ?_) ?_
      ·
        go_simp
        refine hK _ _ ?_; clear hK K
        refine wpAny_ready (rs := [6]) (by kernel_rfl) (by simp) ?_
        refine AllReady.cons rfl (fun K hK => ?_) ?_
        ·
          go_simp
          go_wp2_with ((go_at_call 34; refine HL.out.mono ?_; rintro e w' ⟨rfl, rfl⟩))
          first | (refine hK _ _ ?_; clear hK K) | skip
          refine wpAny_ready (rs := [7]) (by kernel_rfl) (by simp) ?_
          refine AllReady.cons rfl (fun K hK => ?_) ?_
          ·
            go_simp
            refine hK _ _ ?_; clear hK K
            refine wpAny_ready (rs := [8]) (by kernel_rfl) (by simp) ?_
            refine AllReady.cons rfl (fun K hK => ?_) ?_
            ·
              refine step_append_sl _ rfl _ _ 33 3 rfl Try.underlying33 info_tint rfl (by decide) (by decide) az d cs (stC L) rfl (SlV.alloc (HQ.out.drewN 1).sts _) (by omega) ⟨w.heap.size, 0, none⟩ 1 1 [.int .i64 (L.length : Int)] rfl rfl (box_news w.drew 3 [.int .i64 (L.length : Int)]) (by intro u hu; simp at hu; subst hu; rfl) (by decide) (by decide) ?_
              intro g' c' w2 hr hg hk
              have hbk : w2.heap[b]? = w.heap[b]? := ((hk _ (fun j hj => hj)).block b (by simp; omega) hbz).trans (Below.heap_alloc _ _ _ hb)
              have d2 : w2.cell? ⟨b, 2, none⟩ = some (.slice az d cs) := by rw [World.cell?_of_block (w := w) (a := ⟨b, 2, none⟩) hbk]; exact c2
              have f2 : w2.frozen? ⟨b, 2, none⟩ = false := by rw [World.frozen?_of_block (w := w) (a := ⟨b, 2, none⟩) hbk]; exact fz
              refine hK _ _ ?_; clear hK K
              refine wpAny_take (i := 9) (v := ?_) rfl (by kernel_rfl) (by kernel_rfl) (by kernel_rfl) (fun _ _ _ h => h) (Or.inl ⟨by rfl, ?_⟩) ?_
              rotate_left 1
              · (intro w; go_simp <;> with_reducible rfl)
              refine wpAny_take (i := 10) (v := ?_) rfl (by kernel_rfl) (by kernel_rfl) (by kernel_rfl) (fun _ _ _ h => h) (Or.inl ⟨by rfl, ?_⟩) ?_
              rotate_left 1
              · (intro w; go_simp <;> with_reducible rfl)
              refine wpAny_ready (rs := [11]) (by kernel_rfl) (by simp) ?_
              refine AllReady.cons rfl (fun K hK => ?_) ?_
              ·
                go_simp
                refine hK _ _ ?_; clear hK K
                refine wpAny_done (by kernel_rfl) ?_ _
                go_wp2_with fail; go_meet; exact deep_of HP0.out (HQ.out.drewN 1) ((Kf.refl (FootT b gm ao az) w).drewN 1) (by simpa using hr) hg (hk _ (fun j hj => hj))
              exact AllReady.nil
            exact AllReady.nil
          exact AllReady.nil
        exact AllReady.nil
      refine AllReady.cons rfl (fun K hK => ?_) ?_
      ·
        go_simp
        go_wp2_with ((go_at_call 34; refine HL.out.mono ?_; rintro e w' ⟨rfl, rfl⟩))
        first | (refine hK _ _ ?_; clear hK K) | skip
        refine wpAny_ready (rs := [4, 7]) (by kernel_rfl) (by simp) ?_
        refine AllReady.cons rfl (fun K hK => ?_) ?_
        ·
          go_simp
          refine hK _ _ ?_; clear hK K
          refine wpAny_ready (rs := [7]) (by kernel_rfl) (by simp) ?_
          refine AllReady.cons rfl (fun K hK => ?_) ?_
          ·
            go_simp
            refine hK _ _ ?_; clear hK K
            refine wpAny_ready (rs := [8]) (by kernel_rfl) (by simp) ?_
            refine AllReady.cons rfl (fun K hK => ?_) ?_
            ·
              refine step_append_sl _ rfl _ _ 33 3 rfl Try.underlying33 info_tint rfl (by decide) (by decide) az d cs (stC L) rfl (SlV.alloc (HQ.out.drewN 1).sts _) (by omega) ⟨w.heap.size, 0, none⟩ 1 1 [.int .i64 (L.length : Int)] rfl rfl (box_news w.drew 3 [.int .i64 (L.length : Int)]) (by intro u hu; simp at hu; subst hu; rfl) (by decide) (by decide) ?_
              intro g' c' w2 hr hg hk
              have hbk : w2.heap[b]? = w.heap[b]? := ((hk _ (fun j hj => hj)).block b (by simp; omega) hbz).trans (Below.heap_alloc _ _ _ hb)
              have d2 : w2.cell? ⟨b, 2, none⟩ = some (.slice az d cs) := by rw [World.cell?_of_block (w := w) (a := ⟨b, 2, none⟩) hbk]; exact c2
              have f2 : w2.frozen? ⟨b, 2, none⟩ = false := by rw [World.frozen?_of_block (w := w) (a := ⟨b, 2, none⟩) hbk]; exact fz
              refine hK _ _ ?_; clear hK K
              refine wpAny_take (i := 9) (v := ?_) rfl (by kernel_rfl) (by kernel_rfl) (by kernel_rfl) (fun _ _ _ h => h) (Or.inl ⟨by rfl, ?_⟩) ?_
              rotate_left 1
              · (intro w; go_simp <;> with_reducible rfl)
              refine wpAny_take (i := 10) (v := ?_) rfl (by kernel_rfl) (by kernel_rfl) (by kernel_rfl) (fun _ _ _ h => h) (Or.inl ⟨by rfl, ?_⟩) ?_
              rotate_left 1
              · (intro w; go_simp <;> with_reducible rfl)
              refine wpAny_ready (rs := [11]) (by kernel_rfl) (by simp) ?_
              refine AllReady.cons rfl (fun K hK => ?_) ?_
              ·
                go_simp
                refine hK _ _ ?_; clear hK K
                refine wpAny_done (by kernel_rfl) ?_ _
                go_wp2_with fail; go_meet; exact deep_of HP0.out (HQ.out.drewN 1) ((Kf.refl (FootT b gm ao az) w).drewN 1) (by simpa using hr) hg (hk _ (fun j hj => hj))
              exact AllReady.nil
            exact AllReady.nil
          exact AllReady.nil
        refine AllReady.cons rfl (fun K hK => ?_) ?_
        ·
          go_simp
          refine hK _ _ ?_; clear hK K
          refine wpAny_ready (rs := [4]) (by kernel_rfl) (by simp) ?_
          refine AllReady.cons rfl (fun K hK => ?_) ?_
          ·
            go_simp
            refine hK _ _ ?_; clear hK K
            refine wpAny_ready (rs := [8]) (by kernel_rfl) (by simp) ?_
            refine AllReady.cons rfl (fun K hK => ?_) ?_
            ·
              refine step_append_sl _ rfl _ _ 33 3 rfl Try.underlying33 info_tint rfl (by decide) (by decide) az d cs (stC L) rfl (SlV.alloc (HQ.out.drewN 1).sts _) (by omega) ⟨w.heap.size, 0, none⟩ 1 1 [.int .i64 (L.length : Int)] rfl rfl (box_news w.drew 3 [.int .i64 (L.length : Int)]) (by intro u hu; simp at hu; subst hu; rfl) (by decide) (by decide) ?_
              intro g' c' w2 hr hg hk
              have hbk : w2.heap[b]? = w.heap[b]? := ((hk _ (fun j hj => hj)).block b (by simp; omega) hbz).trans (Below.heap_alloc _ _ _ hb)
              have d2 : w2.cell? ⟨b, 2, none⟩ = some (.slice az d cs) := by rw [World.cell?_of_block (w := w) (a := ⟨b, 2, none⟩) hbk]; exact c2
              have f2 : w2.frozen? ⟨b, 2, none⟩ = false := by rw [World.frozen?_of_block (w := w) (a := ⟨b, 2, none⟩) hbk]; exact fz
              refine hK _ _ ?_; clear hK K
              refine wpAny_take (i := 9) (v := ?_) rfl (by kernel_rfl) (by kernel_rfl) (by kernel_rfl) (fun _ _ _ h => h) (Or.inl ⟨by rfl, ?_⟩) ?_
              rotate_left 1
              · (intro w; go_simp <;> with_reducible rfl)
              refine wpAny_take (i := 10) (v := ?_) rfl (by kernel_rfl) (by kernel_rfl) (by kernel_rfl) (fun _ _ _ h => h) (Or.inl ⟨by rfl, ?_⟩) ?_
              rotate_left 1
              · (intro w; go_simp <;> with_reducible rfl)
              refine wpAny_ready (rs := [11]) (by kernel_rfl) (by simp) ?_
              refine AllReady.cons rfl (fun K hK => ?_) ?_
              ·
                go_simp
                refine hK _ _ ?_; clear hK K
                refine wpAny_done (by kernel_rfl) ?_ _
                go_wp2_with fail; go_meet; exact deep_of HP0.out (HQ.out.drewN 1) ((Kf.refl (FootT b gm ao az) w).drewN 1) (by simpa using hr) hg (hk _ (fun j hj => hj))
              exact AllReady.nil
            exact AllReady.nil
          exact AllReady.nil
        exact AllReady.nil
      exact AllReady.nil
    case rest =>
      obtain ⟨g2, c3, hT, hg, hk⟩ := hcut.out
      have HPP := Lib.hid (HP.out _ _ _ hT)
      have HG := Lib.hid hg
      have HK := Lib.hid hk
      clear hcut HP HL c2 fz hT hg hk
      go_wp2_with fail
      refine HPP.out.mono ?_
      rintro e w3 ⟨g4, c4, rfl, hT4, hg4, hk4⟩
      have HE : Hid (TrailTo (FootT b gm ao az) w w3 b n (d + 1) (L ++ [⟨l, d + 1, -1⟩])) := by
        have hsz := HK.out.size
        have hG := HG.out
        refine ⟨FootT b gm (some ⟨g4, 0, none⟩) (some ⟨g2, 0, none⟩), ⟨gm, cm, some ⟨g4, 0, none⟩, c4, some ⟨g2, 0, none⟩, c3, hT4.congr (fun _ _ => rfl) (fun _ _ => rfl) (fun j hj => stC_snoc L _ hj), HO.out, rfl⟩, ?_, HK.out.trans hk4 ?_⟩
        · rintro k (e | e | e | e)
          · exact .inl (.inl e)
          · exact .inl (.inr (.inl e))
          · rw [onB_some] at e
            subst e
            rcases hg4 with x | x
            · exact .inl (.inr (.inr (.inl x)))
            · exact .inr (by omega)
          · rw [onB_some] at e
            subst e
            rcases hG with x | x
            · exact .inl (.inr (.inr (.inr x)))
            · exact .inr x
        · rintro k (e | e | e | e)
          · exact .inl (.inl e)
          · exact .inl (.inr (.inl e))
          · exact .inl (.inr (.inr (.inl e)))
          · rw [onB_some] at e
            subst e
            rcases hG with x | x
            · exact .inl (.inr (.inr (.inr x)))
            · exact .inr x
      clear hT4 hg4 hk4 HO HPP
      go_wp2_with fail
      go_ret
      exact ⟨rfl, HE.out⟩
end
end Go.Proofs.Ytjhopjokllkipaa
