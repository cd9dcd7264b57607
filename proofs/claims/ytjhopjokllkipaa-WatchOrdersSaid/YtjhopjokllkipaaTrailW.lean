/- The contracts of a trail's free, put, Set, Decide, Grow, New. -/
import Derived.Test.YtjhopjokllkipaaTrailR
import Derived.Deep.RegionWith
namespace Go.Proofs.Ytjhopjokllkipaa
open Go.RowKit LitM TrailM

theorem info_tlit : (Try.prog.info? 27).map (fun i => (i.zero, i.size, i.bytes)) = some (some (.int .i32 0), 1, 4) := by kernel_rfl
theorem info_tint : (Try.prog.info? 3).map (fun i => (i.zero, i.size, i.bytes)) = some (some (.int .i64 0), 1, 8) := by kernel_rfl
theorem info_mark : (Try.prog.info? 76).map (fun i => (i.zero, i.size, i.bytes)) = some (some (.agg #[.int .i32 0, .int .i64 0, .int .i64 0]), 3, 24) := by kernel_rfl

section
variable {b gm cm co cs n d : Nat} {ao az : Option Addr} {L : List Ent}

set_option maxHeartbeats 1600000 in
theorem free_bad (w : World) (h : TQ w b gm cm ao co az cs n d L) (hn : n ≤ 300000) (l : Int) (l0 : -2147483648 ≤ l) (l1 : l ≤ 2147483647) (hb : one l = false ∨ (n : Int) < varZ l) :
    Calls Try.prog 67 #[.pointer (some ⟨b, 0, none⟩), .int .i32 l] w fun e w' => e = .returned (.tuple #[.pointer none, .int .i64 41]) ∧ w = w' := by
  have HL := Lib.hid (var_any l w l0 l1)
  have HV := Lib.hid (tvars_nat w h hn)
  rw [← varZ_zero] at hb
  clear h
  have hbd := varZ_bd l
  obtain ⟨hbd1, hbd2⟩ := hbd
  generalize varZ l = v at *
  by_cases h0 : v = 0
  · subst h0
    clear hb
    go_enter Try.func67, Try.ntmps67
    go_wp2_with fail
    refine HL.out.mono ?_
    rintro e w' ⟨rfl, rfl⟩
    go_wp2_with fail
    go_ret2
    exact ⟨rfl, rfl⟩
  · have t0 : (v == 0) = false := by rw [beq_eq_false_iff_ne]; exact h0
    have t1 : decide ((n : Int) < v) = true := decide_eq_true (by omega)
    clear hb
    go_enter Try.func67, Try.ntmps67
    go_wp2_with fail
    refine HL.out.mono ?_
    rintro e w' ⟨rfl, rfl⟩
    go_wp2_with fail
    refine HV.out.mono ?_
    rintro e w' ⟨rfl, rfl⟩
    go_wp2_with fail
    go_ret2
    exact ⟨rfl, rfl⟩
set_option maxHeartbeats 1600000 in
theorem free_set (w : World) (h : TQ w b gm cm ao co az cs n d L) (hO : Pre n d L) (hn : n ≤ 300000) (l : Int) (l0 : -2147483648 ≤ l) (l1 : l ≤ 2147483647) (hs : (findE L (varZ l)).isSome = true) :
    Calls Try.prog 67 #[.pointer (some ⟨b, 0, none⟩), .int .i32 l] w fun e w' => e = .returned (.tuple #[.pointer none, .int .i64 42]) ∧ w = w' := by
  have HL := Lib.hid (var_any l w l0 l1)
  have HV := Lib.hid (tvars_nat w h hn)
  have HK := Lib.hid (tknown_nat w h hO hn (varZ l))
  rw [hs] at HK
  obtain ⟨x, hx⟩ := Option.isSome_iff_exists.1 hs
  obtain ⟨_, _, v1, v2, _⟩ := hO.at_ hx
  clear h hs hx
  generalize varZ l = v at *
  have t0 : (v == 0) = false := by rw [beq_eq_false_iff_ne]; omega
  have t1 : decide ((n : Int) < v) = false := decide_eq_false (by omega)
  go_enter Try.func67, Try.ntmps67
  go_wp2_with fail
  refine HL.out.mono ?_
  rintro e w' ⟨rfl, rfl⟩
  go_wp2_with fail
  refine HV.out.mono ?_
  rintro e w' ⟨rfl, rfl⟩
  go_wp2_with fail
  refine HK.out.mono ?_
  rintro e w' ⟨rfl, rfl⟩
  go_wp2_with fail
  go_ret2
  exact ⟨rfl, rfl⟩
set_option maxHeartbeats 1600000 in
theorem free_yes (w : World) (h : TQ w b gm cm ao co az cs n d L) (hO : Pre n d L) (hn : n ≤ 300000) (l : Int) (l0 : -2147483648 ≤ l) (l1 : l ≤ 2147483647) (q : Nat) (hq : varZ l = (q : Int)) (q1 : 1 ≤ q) (q2 : q ≤ n) (hs : findE L (varZ l) = none) :
    Calls Try.prog 67 #[.pointer (some ⟨b, 0, none⟩), .int .i32 l] w fun e w' => e = .returned (.tuple #[.pointer (some ⟨gm, q * 3, none⟩), .int .i64 0]) ∧ w = w' := by
  have HL := Lib.hid (var_any l w l0 l1)
  have HV := Lib.hid (tvars_nat w h hn)
  have HK := Lib.hid (tknown_nat w h hO hn (varZ l))
  rw [hs, show (none : Option Ent).isSome = false from rfl] at HK
  have c0 := h.h0
  have hcm := h.mks.bd
  obtain ⟨hcm1, hcm2⟩ := hcm
  rw [hq] at HL HK
  clear h hs hq
  have t0 : ((q : Int) == 0) = false := by rw [beq_eq_false_iff_ne]; omega
  have t1 : decide ((n : Int) < (q : Int)) = false := decide_eq_false (by omega)
  go_enter Try.func67, Try.ntmps67
  go_wp2_with fail
  refine HL.out.mono ?_
  rintro e w' ⟨rfl, rfl⟩
  go_wp2_with fail
  refine HV.out.mono ?_
  rintro e w' ⟨rfl, rfl⟩
  go_wp2_with fail
  refine HK.out.mono ?_
  rintro e w' ⟨rfl, rfl⟩
  go_wp2_with fail
  go_ret2
  exact ⟨rfl, rfl⟩

/-- What put leaves. -/
def PutTo (b gm cm n : Nat) (ao az : Option Addr) (d cs : Nat) (fs : Nat → Value) (L : List Ent) (w : World) (e : Ending) (w' : World) : Prop :=
  ∃ g' c', e = .returned (.tuple #[]) ∧ T3 w' b gm cm n (some ⟨g', 0, none⟩) L.length c' az d cs (mkC L) (orC L) fs ∧ (onB ao g' ∨ w.heap.size ≤ g') ∧ Kf (FootT b gm ao az) w w'

set_option maxHeartbeats 6400000 in
set_option maxRecDepth 100000 in
theorem put_nat {fs : Nat → Value} (w : World) (h : T3 w b gm cm n ao L.length co az d cs (mkC L) (orC L) fs) (hl : L.length ≤ 100000) (l r : Int) (q : Nat) (hq : varZ l = (q : Int)) (q2 : q ≤ n) (hs : findE L (varZ l) = none) :
    Calls Try.prog 68 #[.pointer (some ⟨b, 0, none⟩), .pointer (some ⟨gm, q * 3, none⟩), .int .i32 l, .int .i64 r] w (PutTo b gm cm n ao az d cs fs (L ++ [⟨l, d, r⟩]) w) := by
  have c2 := h.h2
  have HD : Hid (Calls Try.prog 24 #[.pointer (some ⟨b, 0, none⟩)] w fun e w' => e = .returned (.int .i64 d) ∧ w = w') := by
    unfold Hid
    go_enter Try.func24, Try.ntmps24
    go_wp2
    go_ret
    exact ⟨rfl, rfl⟩
  have f0 := h.mks.free (q * 3)
  have f1 := h.mks.free (q * 3 + 1)
  have f2 := h.mks.free (q * 3 + 2)
  have k0 := h.mks.cell (show q * 3 < (n + 1) * 3 by omega)
  have k1 := h.mks.cell (show q * 3 + 1 < (n + 1) * 3 by omega)
  have k2 := h.mks.cell (show q * 3 + 2 < (n + 1) * 3 by omega)
  rw [mkC0] at k0
  rw [mkC1] at k1
  rw [mkC2] at k2
  have hm := h.mark q2 l (d : Int) r
  have hfm : ∀ j, j < (n + 1) * 3 → mkC (L ++ [⟨l, d, r⟩]) j = mk3 (mkC L) q l (d : Int) r j := fun j _ => mkC_snoc (x := ⟨l, d, r⟩) hs hq.symm j
  have HQ : Hid (T3 (((w.setCell ⟨gm, q * 3, none⟩ (.int .i32 l)).setCell ⟨gm, q * 3 + 1, none⟩ (.int .i64 (d : Int))).setCell ⟨gm, q * 3 + 2, none⟩ (.int .i64 r)) b gm cm n ao L.length co az d cs (mkC (L ++ [⟨l, d, r⟩])) (orC L) fs) :=
    hm.congr hfm (fun _ _ => rfl) (fun _ _ => rfl)
  have HK : Hid (Kf (FootT b gm ao az) w (((w.setCell ⟨gm, q * 3, none⟩ (.int .i32 l)).setCell ⟨gm, q * 3 + 1, none⟩ (.int .i64 (d : Int))).setCell ⟨gm, q * 3 + 2, none⟩ (.int .i64 r))) :=
    (((Kf.refl _ _).set (.inl (.inr (.inl rfl))) _).set (.inl (.inr (.inl rfl))) _).set (.inl (.inr (.inl rfl))) _
  clear h hm hfm hs hq c2
  generalize mkH L q = y0 at *
  generalize mkV L q = y1 at *
  generalize mkR L q = y2 at *
  go_enter Try.func68, Try.ntmps68
  go_wp2_with fail
  refine HD.out.mono ?_
  rintro e w' ⟨rfl, rfl⟩
  obtain ⟨W1, hW1⟩ : ∃ W1, W1 = ((w.setCell ⟨gm, q * 3, none⟩ (.int .i32 l)).setCell ⟨gm, q * 3 + 1, none⟩ (.int .i64 (d : Int))).setCell ⟨gm, q * 3 + 2, none⟩ (.int .i64 r) := ⟨_, rfl⟩
  have HW1 := Lib.hid hW1
  have c1 := HQ.out.h1
  have HO : Hid (SlV 27 1 (W1.alloc (.cells #[.int .i32 l] 27)) ao L.length co (orC L)) := by rw [hW1]; exact HQ.out.ord.alloc _
  have hsz : W1.heap.size = w.heap.size := by rw [hW1]; simp [World.setCell]
  have HY := Lib.hid (box_news W1 27 [.int .i32 l])
  have HS := Lib.hid hsz
  rw [hsz] at HY
  rw [← hW1] at HQ HK
  rw [hW1] at HO HY
  clear hW1 hsz
  go_wp2_with (at_builtin; refine wpList_append_sl _ rfl _ _ 44 27 rfl Try.underlying44 info_tlit rfl (by decide) (by decide) ao L.length co _ rfl HO.out hl ⟨w.heap.size, 0, none⟩ 1 1 [.int .i32 l] rfl rfl HY.out (by intro u hu; simp at hu; subst hu; rfl) (by decide) (by decide) ?_)
  rw [← HW1.out] at HO HY ⊢
  rw [← HW1.out] at c1
  clear HD f0 f1 f2 k0 k1 k2 HY
  have hb := HQ.out.lt
  intro g' co' w2 hr hg' hgr
  have hr' : RowV 27 1 w2 g' (L.length + 1) co' (orC (L ++ [⟨l, d, r⟩])) := hr.congr fun j hj => orC_snoc L ⟨l, d, r⟩ j (by omega)
  have hk2 := hgr _ (fun j hj => hj)
  have hg2 : onB ao g' ∨ (W1.alloc (.cells #[.int .i32 l] 27)).heap.size ≤ g' := by simpa [HS.out] using hg'
  have HR := Lib.hid (HQ.out.pushO hr' hg2 hk2)
  have HG : Hid (onB ao g' ∨ w.heap.size ≤ g') := by
    rcases hg' with e | e
    · exact .inl e
    · exact .inr (by omega)
  have HK2 : Hid (Kf (FootT b gm ao az) w (w2.setCell ⟨b, 1, none⟩ (.slice (some ⟨g', 0, none⟩) (L.length + 1) co'))) :=
    (((HK.out.alloc _).trans hk2 (fun k hk => .inl (.inr (.inr (.inl hk)))))).set (.inl (.inl rfl)) _
  have hbn : ¬ onB ao b := HQ.out.ne.2.1
  have hbk : w2.heap[b]? = W1.heap[b]? := (hk2.block b (by simp; omega) hbn).trans (Below.heap_alloc _ _ _ hb)
  have d1 : w2.cell? ⟨b, 1, none⟩ = some (.slice ao L.length co) := by rw [World.cell?_of_block (w := W1) (a := ⟨b, 1, none⟩) hbk]; exact c1
  have f1 : w2.frozen? ⟨b, 1, none⟩ = false := by rw [World.frozen?_of_block (w := W1) (a := ⟨b, 1, none⟩) hbk]; exact HQ.out.free 1
  clear hr hr' hg' hg2 hgr hk2 hbk c1 HO HK hbn hb
  go_wp2_with fail
  go_end0
  refine ⟨g', co', rfl, ?_, HG.out, HK2.out⟩
  rw [show (L ++ [(⟨l, d, r⟩ : Ent)]).length = L.length + 1 from by simp]
  exact HR.out
end
end Go.Proofs.Ytjhopjokllkipaa
