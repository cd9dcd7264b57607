/- The sink's Add: one clause more, in new memory; the Knit's add. -/
import Derived.Test.YtmiifhclcknhdaaKntB
import Derived.Test.YtmiifhclcknhdaaGsrt
namespace Go.Proofs.Ytmiifhclcknhdaa
open Go.RowKit GatM KntM

/-- A clause that is handed in. -/
abbrev SlZ (w : World) (A : Option Addr) (c : Nat) (l : List Int) : Prop := SlV 38 1 w A l.length c (zF l)
section
variable {w : World} {q : KnC} {s : KnS}
/-- What Add leaves. -/
def AddTo (w : World) (q : KnC) (s : KnS) (cl : List Int) (e : Ending) (w' : World) : Prop := e = .returned (.int .i64 0) ∧ ∃ q', KnAt w' q' { s with F := s.F ++ [cl] } ∧ KnTo w w' q q'
set_option maxHeartbeats 6400000 in
set_option maxRecDepth 100000 in
theorem sadd_any (h : KnAt w q s) (hF : s.F.length ≤ 90000) (A : Option Addr) (n c : Nat) (cl : List Int) (hn : cl.length = n) (hn9 : n ≤ 90000) (hc : SlZ w A c cl) :
    Calls Try.prog 93 #[.pointer (some ⟨q.bs, 0, none⟩), .slice A n c] w (AddTo w q s cl) := by
  obtain ⟨f, hf⟩ := h.cl
  obtain ⟨v0, hv0⟩ : ∃ v0, v0 = w.drew := ⟨_, rfl⟩
  have hb0 : Below w.heap.size w v0 := by rw [hv0]; exact (Below.refl _ _).drew
  have hsz : v0.heap.size = w.heap.size := by rw [hv0]; rfl
  have HS : Hid (∀ W, Below w.heap.size w W → W.cell? ⟨q.bs, 1, none⟩ = some (.slice q.Ac s.F.length q.cc)) := fun W hb => (hb.cell (p := ⟨q.bs, 1, none⟩) h.lts).trans h.scells.2.1
  have hS0 := HS.out v0 hb0
  have HS1 : Hid (∀ v1, v1 = v0.alloc (.cells #[] 38) → v1.cell? ⟨q.bs, 1, none⟩ = some (.slice q.Ac s.F.length q.cc)) := fun v1 e => HS.out v1 (by rw [e]; exact hb0.alloc (by omega) _)
  have HA1 : Hid (∀ v1, v1 = v0.alloc (.cells #[] 38) → RowV 38 1 v1 v0.heap.size 0 0 (fun _ => .int .i64 0) ∧ SlV 38 1 v1 A n c (zF cl)) := fun v1 e => by
    have hb1 : Below w.heap.size w v1 := by rw [e]; exact hb0.alloc (by omega) _
    refine ⟨by rw [e]; exact RowV.made (by omega) rfl (fun j hj => by omega), ?_⟩
    rw [← hn]; exact SlV.below hc hb1
  have HA2 : Hid (∀ v1, v1 = v0.alloc (.cells #[] 38) → ∀ g c1 v2, RowV 38 1 v2 g (0 + n) c1 (appV (fun _ => .int .i64 0) (0 * 1) (cellsV (zF cl) (n * 1))) → (g = v0.heap.size ∨ v1.heap.size ≤ g) → Kf (fun k => k = v0.heap.size) v1 v2 →
      v2.cell? ⟨q.bs, 1, none⟩ = some (.slice q.Ac s.F.length q.cc) ∧ ∀ v3, v3 = v2.alloc (.cells #[.slice (some ⟨g, 0, none⟩) n c1] 60) → v3.cell? ⟨q.bs, 1, none⟩ = some (.slice q.Ac s.F.length q.cc) ∧ SlV 60 1 v3 q.Ac s.F.length q.cc f ∧
        (∀ j u, [(Value.slice (some ⟨g, 0, none⟩) n c1)][j]? = some u → v3.cell? ((⟨v2.heap.size, 0, none⟩ : Addr).add j) = some u) ∧
        ∀ g4 c4 v4, RowV 60 1 v4 g4 (s.F.length + 1) c4 (appV f (s.F.length * 1) [.slice (some ⟨g, 0, none⟩) n c1]) → (onB q.Ac g4 ∨ v3.heap.size ≤ g4) → Kf (fun k => onB q.Ac k) v3 v4 →
          (v4.cell? ⟨q.bs, 1, none⟩ = some (.slice q.Ac s.F.length q.cc) ∧ v4.frozen? ⟨q.bs, 1, none⟩ = false) ∧ AddTo w q s cl (.returned (.int .i64 0)) (v4.setCell ⟨q.bs, 1, none⟩ (.slice (some ⟨g4, 0, none⟩) (s.F.length + 1) c4))) := fun v1 e g c1 v2 hr hg hk => by
    have hb1 : Below w.heap.size w v1 := by rw [e]; exact hb0.alloc (by omega) _
    have hv1 : v1.heap.size = w.heap.size + 1 := by rw [e]; simp [hsz]
    have hb2 : Below w.heap.size w v2 := hb1.trans (hk.below (by omega) fun x hx => by omega)
    have hg' : w.heap.size ≤ g := by omega
    refine ⟨HS.out _ hb2, fun v3 e3 => ?_⟩
    have hb23 : Below v2.heap.size v2 v3 := by rw [e3]; exact (Below.refl _ _).alloc (Nat.le_refl _) _
    have hb3 : Below w.heap.size w v3 := hb2.trans (hb23.mono hb2.size)
    refine ⟨HS.out _ hb3, SlV.below hf.1.1 hb3, by rw [e3]; exact box_news v2 60 _, fun g4 c4 v4 hr4 hg4 hk4 => ?_⟩
    have hr' : RowV 38 1 v2 g cl.length c1 (zF cl) := by
      have : RowV 38 1 v2 g n c1 (appV (fun _ => .int .i64 0) (0 * 1) (cellsV (zF cl) (n * 1))) := by simpa using hr
      rw [hn]
      refine this.congr fun j hj => ?_
      unfold appV
      rw [if_neg (by omega), List.getD, cellsV_get _ (by omega)]
      simp
    obtain ⟨p1, q', p2, p3⟩ := h.addC hf hb2 hg' hr' hb23 (by rw [hn]; exact hr4) hg4 hk4
    exact ⟨p1, rfl, q', p2, p3⟩
  have HV0 := Lib.hid hv0
  clear hf h hc hb0 hsz hv0
  go_enter Try.func93, Try.ntmps93
  go_upto_region 1 with (fail)
  refine wp_region_any (by kernel_rfl) ?_
  change wpAny _ _ _ _ _ _ _ (World.drew _)
  rw [← HV0.out]
  have hHeld := hS0
  clear hS0
  refine wpAny_take (i := 0) (v := ?_) rfl (by kernel_rfl) (by kernel_rfl) (by kernel_rfl) (fun _ _ _ h => h) (Or.inl ⟨by kernel_rfl, ?_⟩) ?_
  rotate_left 1
  · (intro w; go_simp <;> with_reducible rfl)
  go_simp
  refine wpAny_take (i := 1) (v := ?_) rfl (by kernel_rfl) (by kernel_rfl) (by kernel_rfl) (fun _ _ _ h => h) (Or.inl ⟨by kernel_rfl, ?_⟩) ?_
  rotate_left 1
  · (intro w; go_simp <;> with_reducible rfl)
  go_simp
  refine wpAny_take (i := 2) (v := ?_) rfl (by kernel_rfl) (by kernel_rfl) (by kernel_rfl) (fun _ _ _ h => h) (Or.inl ⟨by kernel_rfl, ?_⟩) ?_
  rotate_left 1
  · (intro w; go_simp <;> with_reducible rfl)
  go_simp
  refine wpAny_take (i := 3) (v := ?_) rfl (by kernel_rfl) (by kernel_rfl) (by kernel_rfl) (fun _ _ _ h => h) (Or.inl ⟨by kernel_rfl, ?_⟩) ?_
  rotate_left 1
  · (intro w; go_simp <;> with_reducible rfl)
  go_simp
  refine wpAny_take (i := 4) (v := ?_) rfl (by kernel_rfl) (by kernel_rfl) (by kernel_rfl) (fun _ _ _ h => h) (Or.inl ⟨by kernel_rfl, ?_⟩) ?_
  rotate_left 1
  · (intro w; go_simp <;> with_reducible rfl)
  go_simp
  refine wpAny_take (i := 7) (v := ?_) rfl (by kernel_rfl) (by kernel_rfl) (by kernel_rfl) (fun _ _ _ h => h) (Or.inl ⟨by kernel_rfl, ?_⟩) ?_
  rotate_left 1
  · (intro w; go_simp <;> with_reducible rfl)
  go_simp
  refine wpAny_ready (rs := [5, 6]) (by kernel_rfl) (by simp) ?_
  refine AllReady.cons rfl (fun K hK => ?_) ?_
  ·
    go_simp
    refine hK _ _ ?_; clear hK K
    refine wpAny_ready (rs := [6]) (by kernel_rfl) (by simp) ?_
    refine AllReady.cons rfl (fun K hK => ?_) ?_
    ·
      go_simp
      refine hK _ _ ?_; clear hK K
      obtain ⟨v1, hv1⟩ : ∃ v1, v1 = v0.alloc (.cells #[] 38) := ⟨_, rfl⟩
      rw [← hv1]
      clear hHeld
      have hHeld := HS1.out _ hv1
      obtain ⟨hr1, hsrc1⟩ := HA1.out _ hv1
      have HR1 := Lib.hid hr1
      have HC1 := Lib.hid hsrc1
      have HX1 := Lib.hid (HA2.out _ hv1)
      clear hv1 hr1 hsrc1
      refine wpAny_ready (rs := [8]) (by kernel_rfl) (by simp) ?_
      refine AllReady.cons rfl (fun K hK => ?_) ?_
      ·
        refine step_append_src v1 rfl _ _ 60 38 rfl Try.underlying60 info_klit rfl (by decide) (by decide) v0.heap.size 0 0 (fun _ => .int .i64 0) rfl HR1.out (by omega) A n c (zF cl) rfl HC1.out (fun j _ => rfl) (by omega) ?_
        intro g c1 v2 hr2 hg2 hk2
        obtain ⟨hS2, hX2⟩ := HX1.out g c1 v2 hr2 hg2 hk2
        have HX2 := Lib.hid hX2
        clear hHeld
        have hHeld := hS2
        refine hK _ _ ?_
        clear hK K hr2 hg2 hk2 hX2 hS2
        go_simp
        refine wpAny_ready (rs := [9]) (by kernel_rfl) (by simp) ?_
        refine AllReady.cons rfl (fun K hK => ?_) ?_
        ·
          go_simp
          refine hK _ _ ?_; clear hK K
          obtain ⟨v3, hv3⟩ : ∃ v3, v3 = v2.alloc (.cells #[.slice (some ⟨g, 0, none⟩) n c1] 60) := ⟨_, rfl⟩
          rw [← hv3]
          clear hHeld
          obtain ⟨hHeld, hsl3, hnw3, hX3⟩ := HX2.out _ hv3
          have HSL3 := Lib.hid hsl3
          have HNW3 := Lib.hid hnw3
          have HX3 := Lib.hid hX3
          clear hv3 hsl3 hnw3 hX3 HX2
          refine wpAny_ready (rs := [10]) (by kernel_rfl) (by simp) ?_
          refine AllReady.cons rfl (fun K hK => ?_) ?_
          ·
            refine step_append_sl v3 rfl _ _ 32 60 rfl Try.underlying32 info_kls rfl (by decide) (by decide) q.Ac s.F.length q.cc f rfl HSL3.out (by omega) ⟨v2.heap.size, 0, none⟩ 1 1 [.slice (some ⟨g, 0, none⟩) n c1] rfl rfl HNW3.out (by simp [Value.oneCell']) (by omega) (by omega) ?_
            intro g4 c4 v4 hr4 hg4 hk4
            obtain ⟨⟨d0, d1⟩, hE⟩ := HX3.out g4 c4 v4 hr4 hg4 (hk4 _ fun j hj => hj)
            have HE := Lib.hid hE
            refine hK _ _ ?_
            clear hK K hr4 hg4 hk4 hE HX3 hHeld
            go_simp
            refine wpAny_take (i := 11) (v := ?_) rfl (by kernel_rfl) (by kernel_rfl) (by kernel_rfl) (fun _ _ _ h => h) (Or.inl ⟨by kernel_rfl, ?_⟩) ?_
            rotate_left 1
            · (intro w; go_simp <;> with_reducible rfl)
            go_simp
            refine wpAny_take (i := 12) (v := ?_) rfl (by kernel_rfl) (by kernel_rfl) (by kernel_rfl) (fun _ _ _ h => h) (Or.inl ⟨by kernel_rfl, ?_⟩) ?_
            rotate_left 1
            · (intro w; go_simp <;> with_reducible rfl)
            go_simp
            refine wpAny_take (i := 13) (v := ?_) rfl (by kernel_rfl) (by kernel_rfl) (by kernel_rfl) (fun _ _ _ h => h) (Or.inl ⟨by kernel_rfl, ?_⟩) ?_
            rotate_left 1
            · (intro w; go_simp <;> with_reducible rfl)
            go_simp
            refine wpAny_ready (rs := [14]) (by kernel_rfl) (by simp) ?_
            refine AllReady.cons rfl (fun K hK => ?_) ?_
            ·
              go_simp
              refine hK _ _ ?_; clear hK K
              refine wpAny_done (by kernel_rfl) ?_ _
              clear d0 d1
              go_wp2_with fail
              go_ret
              exact HE.out
            exact AllReady.nil
          exact AllReady.nil
        exact AllReady.nil
      exact AllReady.nil
    exact AllReady.nil
  refine AllReady.cons rfl (fun K hK => ?_) ?_
  ·
    go_simp
    refine hK _ _ ?_; clear hK K
    obtain ⟨v1, hv1⟩ : ∃ v1, v1 = v0.alloc (.cells #[] 38) := ⟨_, rfl⟩
    rw [← hv1]
    clear hHeld
    have hHeld := HS1.out _ hv1
    obtain ⟨hr1, hsrc1⟩ := HA1.out _ hv1
    have HR1 := Lib.hid hr1
    have HC1 := Lib.hid hsrc1
    have HX1 := Lib.hid (HA2.out _ hv1)
    clear hv1 hr1 hsrc1
    refine wpAny_ready (rs := [5, 8]) (by kernel_rfl) (by simp) ?_
    refine AllReady.cons rfl (fun K hK => ?_) ?_
    ·
      go_simp
      refine hK _ _ ?_; clear hK K
      refine wpAny_ready (rs := [8]) (by kernel_rfl) (by simp) ?_
      refine AllReady.cons rfl (fun K hK => ?_) ?_
      ·
        refine step_append_src v1 rfl _ _ 60 38 rfl Try.underlying60 info_klit rfl (by decide) (by decide) v0.heap.size 0 0 (fun _ => .int .i64 0) rfl HR1.out (by omega) A n c (zF cl) rfl HC1.out (fun j _ => rfl) (by omega) ?_
        intro g c1 v2 hr2 hg2 hk2
        obtain ⟨hS2, hX2⟩ := HX1.out g c1 v2 hr2 hg2 hk2
        have HX2 := Lib.hid hX2
        clear hHeld
        have hHeld := hS2
        refine hK _ _ ?_
        clear hK K hr2 hg2 hk2 hX2 hS2
        go_simp
        refine wpAny_ready (rs := [9]) (by kernel_rfl) (by simp) ?_
        refine AllReady.cons rfl (fun K hK => ?_) ?_
        ·
          go_simp
          refine hK _ _ ?_; clear hK K
          obtain ⟨v3, hv3⟩ : ∃ v3, v3 = v2.alloc (.cells #[.slice (some ⟨g, 0, none⟩) n c1] 60) := ⟨_, rfl⟩
          rw [← hv3]
          clear hHeld
          obtain ⟨hHeld, hsl3, hnw3, hX3⟩ := HX2.out _ hv3
          have HSL3 := Lib.hid hsl3
          have HNW3 := Lib.hid hnw3
          have HX3 := Lib.hid hX3
          clear hv3 hsl3 hnw3 hX3 HX2
          refine wpAny_ready (rs := [10]) (by kernel_rfl) (by simp) ?_
          refine AllReady.cons rfl (fun K hK => ?_) ?_
          ·
            refine step_append_sl v3 rfl _ _ 32 60 rfl Try.underlying32 info_kls rfl (by decide) (by decide) q.Ac s.F.length q.cc f rfl HSL3.out (by omega) ⟨v2.heap.size, 0, none⟩ 1 1 [.slice (some ⟨g, 0, none⟩) n c1] rfl rfl HNW3.out (by simp [Value.oneCell']) (by omega) (by omega) ?_
            intro g4 c4 v4 hr4 hg4 hk4
            obtain ⟨⟨d0, d1⟩, hE⟩ := HX3.out g4 c4 v4 hr4 hg4 (hk4 _ fun j hj => hj)
            have HE := Lib.hid hE
            refine hK _ _ ?_
            clear hK K hr4 hg4 hk4 hE HX3 hHeld
            go_simp
            refine wpAny_take (i := 11) (v := ?_) rfl (by kernel_rfl) (by kernel_rfl) (by kernel_rfl) (fun _ _ _ h => h) (Or.inl ⟨by kernel_rfl, ?_⟩) ?_
            rotate_left 1
            · (intro w; go_simp <;> with_reducible rfl)
            go_simp
            refine wpAny_take (i := 12) (v := ?_) rfl (by kernel_rfl) (by kernel_rfl) (by kernel_rfl) (fun _ _ _ h => h) (Or.inl ⟨by kernel_rfl, ?_⟩) ?_
            rotate_left 1
            · (intro w; go_simp <;> with_reducible rfl)
            go_simp
            refine wpAny_take (i := 13) (v := ?_) rfl (by kernel_rfl) (by kernel_rfl) (by kernel_rfl) (fun _ _ _ h => h) (Or.inl ⟨by kernel_rfl, ?_⟩) ?_
            rotate_left 1
            · (intro w; go_simp <;> with_reducible rfl)
            go_simp
            refine wpAny_ready (rs := [14]) (by kernel_rfl) (by simp) ?_
            refine AllReady.cons rfl (fun K hK => ?_) ?_
            ·
              go_simp
              refine hK _ _ ?_; clear hK K
              refine wpAny_done (by kernel_rfl) ?_ _
              clear d0 d1
              go_wp2_with fail
              go_ret
              exact HE.out
            exact AllReady.nil
          exact AllReady.nil
        exact AllReady.nil
      exact AllReady.nil
    refine AllReady.cons rfl (fun K hK => ?_) ?_
    ·
      refine step_append_src v1 rfl _ _ 60 38 rfl Try.underlying60 info_klit rfl (by decide) (by decide) v0.heap.size 0 0 (fun _ => .int .i64 0) rfl HR1.out (by omega) A n c (zF cl) rfl HC1.out (fun j _ => rfl) (by omega) ?_
      intro g c1 v2 hr2 hg2 hk2
      obtain ⟨hS2, hX2⟩ := HX1.out g c1 v2 hr2 hg2 hk2
      have HX2 := Lib.hid hX2
      clear hHeld
      have hHeld := hS2
      refine hK _ _ ?_
      clear hK K hr2 hg2 hk2 hX2 hS2
      go_simp
      refine wpAny_ready (rs := [5, 9]) (by kernel_rfl) (by simp) ?_
      refine AllReady.cons rfl (fun K hK => ?_) ?_
      ·
        go_simp
        refine hK _ _ ?_; clear hK K
        refine wpAny_ready (rs := [9]) (by kernel_rfl) (by simp) ?_
        refine AllReady.cons rfl (fun K hK => ?_) ?_
        ·
          go_simp
          refine hK _ _ ?_; clear hK K
          obtain ⟨v3, hv3⟩ : ∃ v3, v3 = v2.alloc (.cells #[.slice (some ⟨g, 0, none⟩) n c1] 60) := ⟨_, rfl⟩
          rw [← hv3]
          clear hHeld
          obtain ⟨hHeld, hsl3, hnw3, hX3⟩ := HX2.out _ hv3
          have HSL3 := Lib.hid hsl3
          have HNW3 := Lib.hid hnw3
          have HX3 := Lib.hid hX3
          clear hv3 hsl3 hnw3 hX3 HX2
          refine wpAny_ready (rs := [10]) (by kernel_rfl) (by simp) ?_
          refine AllReady.cons rfl (fun K hK => ?_) ?_
          ·
            refine step_append_sl v3 rfl _ _ 32 60 rfl Try.underlying32 info_kls rfl (by decide) (by decide) q.Ac s.F.length q.cc f rfl HSL3.out (by omega) ⟨v2.heap.size, 0, none⟩ 1 1 [.slice (some ⟨g, 0, none⟩) n c1] rfl rfl HNW3.out (by simp [Value.oneCell']) (by omega) (by omega) ?_
            intro g4 c4 v4 hr4 hg4 hk4
            obtain ⟨⟨d0, d1⟩, hE⟩ := HX3.out g4 c4 v4 hr4 hg4 (hk4 _ fun j hj => hj)
            have HE := Lib.hid hE
            refine hK _ _ ?_
            clear hK K hr4 hg4 hk4 hE HX3 hHeld
            go_simp
            refine wpAny_take (i := 11) (v := ?_) rfl (by kernel_rfl) (by kernel_rfl) (by kernel_rfl) (fun _ _ _ h => h) (Or.inl ⟨by kernel_rfl, ?_⟩) ?_
            rotate_left 1
            · (intro w; go_simp <;> with_reducible rfl)
            go_simp
            refine wpAny_take (i := 12) (v := ?_) rfl (by kernel_rfl) (by kernel_rfl) (by kernel_rfl) (fun _ _ _ h => h) (Or.inl ⟨by kernel_rfl, ?_⟩) ?_
            rotate_left 1
            · (intro w; go_simp <;> with_reducible rfl)
            go_simp
            refine wpAny_take (i := 13) (v := ?_) rfl (by kernel_rfl) (by kernel_rfl) (by kernel_rfl) (fun _ _ _ h => h) (Or.inl ⟨by kernel_rfl, ?_⟩) ?_
            rotate_left 1
            · (intro w; go_simp <;> with_reducible rfl)
            go_simp
            refine wpAny_ready (rs := [14]) (by kernel_rfl) (by simp) ?_
            refine AllReady.cons rfl (fun K hK => ?_) ?_
            ·
              go_simp
              refine hK _ _ ?_; clear hK K
              refine wpAny_done (by kernel_rfl) ?_ _
              clear d0 d1
              go_wp2_with fail
              go_ret
              exact HE.out
            exact AllReady.nil
          exact AllReady.nil
        exact AllReady.nil
      refine AllReady.cons rfl (fun K hK => ?_) ?_
      ·
        go_simp
        refine hK _ _ ?_; clear hK K
        obtain ⟨v3, hv3⟩ : ∃ v3, v3 = v2.alloc (.cells #[.slice (some ⟨g, 0, none⟩) n c1] 60) := ⟨_, rfl⟩
        rw [← hv3]
        clear hHeld
        obtain ⟨hHeld, hsl3, hnw3, hX3⟩ := HX2.out _ hv3
        have HSL3 := Lib.hid hsl3
        have HNW3 := Lib.hid hnw3
        have HX3 := Lib.hid hX3
        clear hv3 hsl3 hnw3 hX3 HX2
        refine wpAny_ready (rs := [5]) (by kernel_rfl) (by simp) ?_
        refine AllReady.cons rfl (fun K hK => ?_) ?_
        ·
          go_simp
          refine hK _ _ ?_; clear hK K
          refine wpAny_ready (rs := [10]) (by kernel_rfl) (by simp) ?_
          refine AllReady.cons rfl (fun K hK => ?_) ?_
          ·
            refine step_append_sl v3 rfl _ _ 32 60 rfl Try.underlying32 info_kls rfl (by decide) (by decide) q.Ac s.F.length q.cc f rfl HSL3.out (by omega) ⟨v2.heap.size, 0, none⟩ 1 1 [.slice (some ⟨g, 0, none⟩) n c1] rfl rfl HNW3.out (by simp [Value.oneCell']) (by omega) (by omega) ?_
            intro g4 c4 v4 hr4 hg4 hk4
            obtain ⟨⟨d0, d1⟩, hE⟩ := HX3.out g4 c4 v4 hr4 hg4 (hk4 _ fun j hj => hj)
            have HE := Lib.hid hE
            refine hK _ _ ?_
            clear hK K hr4 hg4 hk4 hE HX3 hHeld
            go_simp
            refine wpAny_take (i := 11) (v := ?_) rfl (by kernel_rfl) (by kernel_rfl) (by kernel_rfl) (fun _ _ _ h => h) (Or.inl ⟨by kernel_rfl, ?_⟩) ?_
            rotate_left 1
            · (intro w; go_simp <;> with_reducible rfl)
            go_simp
            refine wpAny_take (i := 12) (v := ?_) rfl (by kernel_rfl) (by kernel_rfl) (by kernel_rfl) (fun _ _ _ h => h) (Or.inl ⟨by kernel_rfl, ?_⟩) ?_
            rotate_left 1
            · (intro w; go_simp <;> with_reducible rfl)
            go_simp
            refine wpAny_take (i := 13) (v := ?_) rfl (by kernel_rfl) (by kernel_rfl) (by kernel_rfl) (fun _ _ _ h => h) (Or.inl ⟨by kernel_rfl, ?_⟩) ?_
            rotate_left 1
            · (intro w; go_simp <;> with_reducible rfl)
            go_simp
            refine wpAny_ready (rs := [14]) (by kernel_rfl) (by simp) ?_
            refine AllReady.cons rfl (fun K hK => ?_) ?_
            ·
              go_simp
              refine hK _ _ ?_; clear hK K
              refine wpAny_done (by kernel_rfl) ?_ _
              clear d0 d1
              go_wp2_with fail
              go_ret
              exact HE.out
            exact AllReady.nil
          exact AllReady.nil
        exact AllReady.nil
      exact AllReady.nil
    exact AllReady.nil
  exact AllReady.nil
end
end Go.Proofs.Ytmiifhclcknhdaa
