/- The contract of a draft's shorten. -/
import Derived.Test.YtdecejhobefefaaLrnT
import Derived.Maps.RangeWalk
namespace Go.Proofs.Ytdecejhobefefaa
open Go.Shelf Go.RowKit Go.Lib Go.Sort LitM TrailM EngM

theorem kf_sort {α : Type} [Inhabited α] (enc : α → Value) (w : World) (g m : Nat) (d : Array α) (os : Array Obj) : Kf (fun k => k = g) w (sortWorld enc w g 0 m d os) := by
  refine ⟨rfl, rfl, rfl, ?_, fun k hk hne => ?_⟩
  · unfold sortWorld; rw [size_grow]; simp [putRow, mapBlock, Sort.ahead]
  · unfold sortWorld grow
    rw [Array.getElem?_append, if_pos (by simp [putRow, mapBlock, Sort.ahead]; omega)]
    unfold putRow mapBlock
    simp only [Array.getElem?_modify]
    rw [if_neg (fun e => hne e.symm)]; rfl
theorem row_sort {α : Type} [Inhabited α] (enc : α → Value) {T : TypeId} {w : World} {g n c : Nat} {f : Nat → Value} (h : RowV T 1 w g n c f) (m : Nat) (d : Array α) (os : Array Obj) (hd : d.size = n) :
    RowV T 1 (sortWorld enc w g 0 m d os) g n c (fun j => enc (d[j]!)) := by
  have hlt := h.lt
  obtain ⟨cur, hh, h1, h2, h3, h4⟩ := h
  refine ⟨putCells enc 0 d cur, ?_, h1, h2, by simp [putCells, h3], fun j hj => ?_⟩
  · unfold sortWorld grow
    rw [Array.getElem?_append, if_pos (by simp [putRow, mapBlock, Sort.ahead]; omega)]
    unfold putRow mapBlock
    simp only [Array.getElem?_modify, if_true]
    show Option.map _ (w.heap[g]?) = _
    rw [hh]; rfl
  · have := h4 j hj
    unfold putCells
    rw [Array.getElem?_mapIdx, this]
    simp only [Option.map_some]
    rw [if_pos (by omega)]; simp
theorem to_F1 {S : Eng} : ∀ (xs : List Int), (∀ x ∈ xs, valZ S.L x = -1) → ∃ ls : List (F1 S), ls.map F1.val = xs
  | [], _ => ⟨[], rfl⟩
  | x :: xs, h => by
    obtain ⟨ls, e⟩ := to_F1 xs (fun y hy => h y (List.mem_cons_of_mem _ hy))
    exact ⟨⟨x, h x (by simp)⟩ :: ls, by simp [e]⟩
theorem eg_shorten1 : ∀ args w, (callFunc 89 args).run Try.prog w = .ok (.enter 89 args) w := enters_of Try.func89 (by kernel_rfl) rfl
theorem sort_learnt {w : World} {b bd xd g n c : Nat} {q : Pm} {S : Eng} {d : Nat} {C : List Int} (h : E6 w b q S d) (hI : Inv S) (og : q.own g = .no) (hb : w.cell? ⟨bd, 0, none⟩ = some (.pointer (some ⟨b, 0, none⟩))) (hx : w.cell? ⟨xd, 0, none⟩ = some (.pointer (some ⟨bd, 0, none⟩))) (hbd : bd < w.heap.size) (hxd : xd < w.heap.size) (n1 : bd ≠ g) (n2 : xd ≠ g)
    (hr : RowV 43 1 w g n c (lsC C)) (hl : C.length = n) (hC : ∀ y ∈ C, valZ S.L y = -1) (h0 : 0 < n) (hn : n ≤ 100000) :
    Calls Try.prog 71 #[.slice (some ⟨g, 0, none⟩) n c, .func (.func 89) #[] #[.pointer (some ⟨xd, 0, none⟩)]] w fun e w' =>
      e = .returned (.tuple #[]) ∧ ∃ zs : List Int, zs.Pairwise (fun a b => rkZ S a ≤ rkZ S b) ∧ zs.Perm C ∧ RowV 43 1 w' g n c (lsC zs) ∧ Kf (fun k => k = g) w w' := by
  obtain ⟨ls, rfl⟩ := to_F1 C hC
  have hls : ls.length = n := by simpa using hl
  haveI : Inhabited (F1 S) := ⟨ls[0]'(by omega)⟩
  have hbnd : ∀ x : F1 S, -2147483648 ≤ x.val ∧ x.val ≤ 2147483647 := fun x => by
    have := (one_iff _).1 (false_at hI x.is).1
    omega
  have hcmp : CmpLays1 Try.prog 89 #[.pointer (some ⟨xd, 0, none⟩)] (encF (S := S)) (fun x y : F1 S => cfZ S x.val y.val) g 0 ls.toArray.size w := fun m os dk hs x y => by
    have hk := kf_sort (encF (S := S)) w g m dk os
    refine shorten1_any (bd := bd) (h.kept hk (fun k ho e => ho (by rw [e]; exact og))) hI.small.n ?_ ?_ x.val y.val (hbnd x).1 (hbnd x).2 (hbnd y).1 (hbnd y).2
    · exact (World.cell?_of_block (a := ⟨bd, 0, none⟩) (hk.block bd hbd n1)).trans hb
    · exact (World.cell?_of_block (a := ⟨xd, 0, none⟩) (hk.block xd hxd n2)).trans hx
  have hH : Holds (encF (S := S)) w g 0 ls.toArray := fun j hj => by
    have hj : j < n := by simpa [hls] using hj
    refine ⟨?_, by rw [Nat.zero_add]; exact hr.free j⟩
    rw [Nat.zero_add, hr.cell (show j < n * 1 by omega)]
    unfold lsC
    rw [getElem!_pos _ j (by simp; omega), getD_lt (by simp; omega)]
    simp [encF]
  have hS := Any.slices_SortFunc_total Try.sortL (encF (S := S)) (fun _ => rfl) (fun x y : F1 S => cfZ S x.val y.val) (swoF S) 89 #[.pointer (some ⟨xd, 0, none⟩)] g 0 c ls.toArray w eg_shorten1 hcmp hH hr.lt (by simp; omega) (totF hI)
  have hsz : ls.toArray.size = n := by simp [hls]
  rw [hsz] at hS
  change Calls Try.prog 71 _ _ _ at hS
  refine Calls.mono hS fun e w' ⟨he, m, os, hw⟩ => ⟨he, ?_⟩
  refine ⟨(ls.mergeSort fun x y => !(ltOf fun x y : F1 S => cfZ S x.val y.val) y x).map F1.val, ?_, (List.mergeSort_perm _ _).map _, ?_, by rw [hw]; exact kf_sort _ _ _ _ _ _⟩
  · rw [List.pairwise_map]
    have := List.pairwise_mergeSort (le := fun x y => !(ltOf fun x y : F1 S => cfZ S x.val y.val) y x) (fun a b c h1 h2 => by rw [ltF] at *; simp at *; omega) (fun a b => by rw [ltF, ltF]; simp; omega) ls
    refine this.imp fun {a b} h => ?_
    rw [ltF] at h
    simpa using h
  · rw [hw]
    refine (row_sort (encF (S := S)) hr m _ os (by simp [hls])).congr fun j hj => ?_
    have hj' : j < (ls.mergeSort fun x y => !(ltOf fun x y : F1 S => cfZ S x.val y.val) y x).length := by simp [hls]; omega
    unfold lsC
    rw [getElem!_pos _ j (by simpa using hj'), getD_lt (by simpa using hj')]
    simp [encF]
/-- What shorten leaves. -/
def ShoTo (S : Eng) (t : Nat) (M : List Int) (w : World) (e : Ending) (w' : World) : Prop :=
  ∃ g c zs, e = .returned (.slice (some ⟨g, 0, none⟩) zs.length c) ∧ zs.Nodup ∧ (∀ y, y ∈ zs ↔ y ∈ M ∧ keepB S t M y = true) ∧ zs.Pairwise (fun a b => rkZ S a ≤ rkZ S b) ∧ RowV 43 1 w' g zs.length c (lsC zs) ∧ w.heap.size ≤ g ∧ Below w.heap.size w w'
theorem same_int (y x : Int) : (Go.Lit.int .i32 y).sameKey (.int .i32 x) = decide (y = x) := by
  by_cases e : y = x
  · subst e; simp [Go.Lit.sameKey]
  · simp [Go.Lit.sameKey, e]
theorem ranges_kf {H : Type} {P : Program} {k : TypeId} {R : Value → Option (DataW H × List MemPlace)} {b r n : Nat} {D : DataW H} {left : Go.Lit → Bool} {cnt : Nat} {w w' : World} {F : Nat → Prop} (h : w.ranges P k R b r n D left cnt) (hg : Kf F w w') (hb : ¬ F b) (hr : ¬ F r) : w'.ranges P k R b r n D left cnt := by
  have h1 := h.owns.lt
  have h2 := h.lt
  obtain ⟨es, clock, since, seen, c0, hb', E, hs, hD, hr', rest⟩ := h
  exact ⟨es, clock, since, seen, c0, (hg.block b h1 hb).trans hb', E, hs, hD, (hg.block r h2 hr).trans hr', rest⟩
theorem app_lits {w : World} {g c : Nat} {C : List Int} {x : Int} (h : RowV 43 1 w g (C.length + 1) c (appV (lsC C) C.length [.int .i32 x])) : SlV 43 1 w (some ⟨g, 0, none⟩) (C ++ [x]).length c (lsC (C ++ [x])) := by
  refine .inr ⟨g, rfl, ?_⟩
  rw [List.length_append]
  refine RowV.congr h fun i hi => ?_
  have hi : i < C.length + 1 := by simpa using hi
  unfold appV lsC
  by_cases e : i < C.length
  · rw [if_pos (by omega), List.getD, List.getD, List.getElem?_append_left e]
  · have e2 : i = C.length := by omega
    subst e2
    rw [if_neg (by omega)]; simp
/-- What is collected. -/
def ColZ (S : Eng) (t : Nat) (M C : List Int) (lf : Go.Lit → Bool) : Prop := C.Nodup ∧ ∀ y, y ∈ C ↔ y ∈ M ∧ lf (.int .i32 y) = false ∧ keepB S t M y = true
theorem ColZ.add {S : Eng} {t : Nat} {M C : List Int} {lf : Go.Lit → Bool} {x : Int} (h : ColZ S t M C lf) (hx : x ∈ M) (hl : lf (.int .i32 x) = true) (hk : keepB S t M x = true) : ColZ S t M (C ++ [x]) (fun z => lf z && !z.sameKey (.int .i32 x)) := by
  refine ⟨?_, fun y => ?_⟩
  · rw [List.nodup_append]
    refine ⟨h.1, by simp, fun a ha b hb e => ?_⟩
    have : b = x := by simpa using hb
    subst this; subst e
    have := ((h.2 _).1 ha).2.1
    rw [hl] at this; cases this
  · rw [List.mem_append, h.2]
    show _ ↔ y ∈ M ∧ (lf (.int .i32 y) && !(Go.Lit.int .i32 y).sameKey (.int .i32 x)) = false ∧ _
    rw [same_int]
    by_cases e : y = x
    · subst e; simp [hx, hk]
    · simp [e]
theorem ColZ.skip {S : Eng} {t : Nat} {M C : List Int} {lf : Go.Lit → Bool} {x : Int} (h : ColZ S t M C lf) (hl : lf (.int .i32 x) = true) (hk : keepB S t M x = false) : ColZ S t M C (fun z => lf z && !z.sameKey (.int .i32 x)) := by
  refine ⟨h.1, fun y => ?_⟩
  rw [h.2]
  show _ ↔ y ∈ M ∧ (lf (.int .i32 y) && !(Go.Lit.int .i32 y).sameKey (.int .i32 x)) = false ∧ _
  rw [same_int]
  by_cases e : y = x
  · subst e; simp [hl, hk]
  · simp [e]
theorem ColZ.len {S : Eng} {t : Nat} {M C : List Int} {lf : Go.Lit → Bool} (h : ColZ S t M C lf) (hI : Inv S) (hf : ∀ y ∈ M, valZ S.L y = -1) : C.length ≤ 90000 := by
  have h1 := mlen hI h.1 (fun y hy => hf y ((h.2 y).1 hy).1)
  have h2 := hI.ok.len
  have h3 := hI.small.n
  omega
set_option maxHeartbeats 6400000 in
set_option maxRecDepth 100000 in
theorem shorten_any {w : World} {b bd bm n : Nat} {q : Pm} {S : Eng} {d t : Nat} {M : List Int} {left : Int} (h : E6 w b q S d) (hI : Inv S) (hD : DrB w b bd bm t left) (hM : MapZ w S bm n M) (hnd : M.Nodup) (hfl : ∀ y ∈ M, valZ S.L y = -1) (hex : ∃ y ∈ M, lvl S y = (t : Int)) :
    Calls Try.prog 63 #[.pointer (some ⟨bd, 0, none⟩)] w (ShoTo S t M w) := by
  obtain ⟨w1, hw1⟩ : ∃ w1, w1 = w.alloc (.cells #[.pointer (some ⟨bd, 0, none⟩)] 102) := ⟨_, rfl⟩
  have hb1 : Below w.heap.size w w1 := by rw [hw1]; exact (Below.refl _ _).alloc (Nat.le_refl _) _
  have hs1 : w1.heap.size = w.heap.size + 1 := by rw [hw1]; simp
  have hmlen := mlen hI hnd hfl
  have hn9 := hI.small.n
  have hln := hI.ok.len
  have cd : w1.cell? ⟨w.heap.size, 0, none⟩ = some (.pointer (some ⟨bd, 0, none⟩)) := by rw [hw1]; exact Lib.cell_of_heap (blk_new w _) 0
  have HE1 := Lib.hid (h.below hb1)
  have hD1 : DrB w1 b bd bm t left := hD.same (hb1.block bd hD.lt)
  have hbdl := hD.lt
  have hbml := hM.lt
  have hM1 : MapZ w1 S bm n M := hM.same (hb1.block bm hM.lt)
  have c1 := hD.c1
  have HD1 := Lib.hid hD1
  have HM1 := Lib.hid hM1
  obtain ⟨D, hown, hkeys⟩ := hM1
  have HK := Lib.hid hkeys
  have HC : Hid (∀ W, Below w1.heap.size w1 W → E6 W b q S d ∧ DrB W b bd bm t left ∧ MapZ W S bm n M ∧ W.cell? ⟨w.heap.size, 0, none⟩ = some (.pointer (some ⟨bd, 0, none⟩))) := fun W hW =>
    ⟨HE1.out.below hW, hD1.same (hW.block bd hD1.lt), HM1.out.same (hW.block bm HM1.out.lt), (hW.cell (p := ⟨w.heap.size, 0, none⟩) (by show w.heap.size < _; omega)).trans cd⟩
  have HB1 := Lib.hid hb1
  have HI := Lib.hid hI
  have HND := Lib.hid hnd
  have HFL := Lib.hid hfl
  have HEX := Lib.hid hex
  clear h hI hD hM hD1 hkeys hnd hfl hex hb1
  go_enter Try.func63, Try.ntmps63
  go_wp2_with (first
    | (at_range; rw [← hw1]; refine wpList_range_own _ rfl _ 122 rfl 43 3 kd Try.underlying122 _ bm n D rfl hown ?_; intro w2 hrg0 hg0 hs0)
    | go_in)
  go_frame
  rw [hs1] at hrg0 hs0 ⊢
  have HB2 : Hid (Below w1.heap.size w1 w2) := ⟨hg0.os, hg0.tape, hg0.output, hg0.size, fun k hk => hg0.block k hk (by simp)⟩
  clear hg0 hown c1
  go_loopw [3] (fun cv wr => ∃ (lf : Go.Lit → Bool) (cnt : Nat) (A : Option Addr) (c : Nat) (C : List Int), cv = .slice A C.length c ∧ wr.ranges Try.prog 43 (plainElem Try.prog 3) bm (w.heap.size + 1) n D lf cnt ∧ Hid (SlV 43 1 wr A C.length c (lsC C) ∧ ∀ j, onB A j → w1.heap.size < j) ∧ Hid (ColZ S t M C lf) ∧ Hid (Below w1.heap.size w1 wr) ∧ w1.heap.size < wr.heap.size ∧ C.length ≤ 90000)
    (fun _ wr => wr.rangeLeft bm (w.heap.size + 1))
  case atStart =>
    refine ⟨_, _, none, 0, [], rfl, hrg0, ⟨SlV.nil _ _ _ _, fun j hj => absurd hj (onB_none j)⟩, ⟨List.nodup_nil, fun y => ⟨fun e => absurd e List.not_mem_nil, fun ⟨e1, e2, _⟩ => ?_⟩⟩, HB2, by omega, by simp⟩
    rw [HK.out.has y (HK.out.at_ y e1).1, decide_eq_true e1] at e2
    cases e2
  case round =>
    obtain ⟨lf, cnt, A, c, C, rfl, hrg, hsl, hmem, hbel, hsz, hcl⟩ := hrel
    go_wp2_with (first
      | (at_next; refine wpList_next_ranges_ii _ rfl _ rfl 43 3 .i32 .i64 kd Try.underlying43 Try.underlying3 bm (w.heap.size + 1) n _ _ _ rfl hrg ?_ ?_)
      | go_in)
    · intro hc0 hl0
      obtain ⟨HEr, _, _, cdr⟩ := HC.out wr hbel.out
      have hbdc : wr.cell? ⟨bd, 0, none⟩ = some (.pointer (some ⟨b, 0, none⟩)) := (HC.out wr hbel.out).2.1.c0
      have hex := HEX.out
      obtain ⟨y, hy, hly⟩ := hex
      have hyC : y ∈ C := (hmem.out.2 y).2 ⟨hy, hl0 _, by unfold keepB; rw [decide_eq_true hly]; rfl⟩
      have hCp : 0 < C.length := List.length_pos_of_mem hyC
      obtain ⟨g, rfl, hrow⟩ := hsl.out.1.row hCp
      have hgb := hsl.out.2 g ⟨_, rfl, rfl⟩
      have og : q.own g = .no := HE1.out.fr g (Nat.le_of_lt hgb)
      have hbz := hbel.out.size
      have HS := Lib.hid (sort_learnt (c := c) HEr HI.out og hbdc cdr (by omega) (by omega) (by omega) (by omega) hrow rfl (fun y hy => HFL.out y ((hmem.out.2 y).1 hy).1) hCp (by omega))
      have HG : Hid (w.heap.size ≤ g) := by unfold Hid; omega
      have HCM : Hid (∀ y, y ∈ C ↔ y ∈ M ∧ keepB S t M y = true) := fun y => by rw [hmem.out.2 y, hl0]; simp
      clear HEr hbdc hrow hyC hly hy hrg hsl hgb og cdr hbz
      go_wp2_with fail
      refine HS.out.mono ?_
      rintro e w7 ⟨rfl, zs, hp, hpm, hr, hk⟩
      have hlz : zs.length = C.length := hpm.length_eq
      have HK7 := Lib.hid hk
      clear hk
      go_wp2_with fail
      go_ret
      refine ⟨g, c, zs, by rw [hlz]; rfl, hpm.nodup_iff.2 hmem.out.1, fun y => by rw [hpm.mem_iff]; exact HCM.out y, hp, by rw [hlz]; exact hr, HG.out, ?_⟩
      have h1 : Below w.heap.size w wr := HB1.out.trans (hbel.out.mono (by omega))
      exact h1.trans (HK7.out.below h1.size (fun k hk => by rw [hk]; exact HG.out))
    · intro x z w3 cnt1 hwx hwc hlx hat hrg1 hlt hg1 hs1' hen
      have hxM : x ∈ M := by
        have := HK.out.has x hwx
        rw [Maps.has_true_of_atKey hat] at this
        exact of_decide_eq_true this.symm
      have hzl : z = lvl S x := by
        have h1 := (HK.out.at_ x hxM).2 (.lit (.int .i64 0))
        rw [hat] at h1
        injection h1 with h1
        injection h1
      have HX : Hid (x ∈ M ∧ z = lvl S x) := ⟨hxM, hzl⟩
      have HO := Lib.hid (false_at HI.out (HFL.out x hxM)).1
      have HB3 : Hid (Below w1.heap.size w1 w3) := hbel.out.trans ⟨hg1.os, hg1.tape, hg1.output, hg1.size, fun k hk => hg1.block k (by omega) (by simp; omega)⟩
      obtain ⟨HE3, HD3, HM3, _⟩ := HC.out w3 HB3.out
      have c1 := HD3.c2
      have cd3 := (HC.out w3 HB3.out).2.2.2
      have HSL : Hid (SlV 43 1 w3 A C.length c (lsC C) ∧ ∀ j, onB A j → w1.heap.size < j) := ⟨hsl.out.1.same fun j hj => hg1.block j (hsl.out.1.lt j hj) (by have := hsl.out.2 j hj; simp; omega), hsl.out.2⟩
      have HSP := Lib.hid (spares_any HE3 HI.out HD3 HM3 x HO.out)
      have hs3 : w1.heap.size < w3.heap.size := by omega
      clear HE3 HD3 HM3 hxM hzl hat hsl hwx hwc hg1 hs1'
      by_cases hzt : z = (t : Int)
      · have tz : (z == (t : Int)) = true := by simpa using hzt
        have hkp : keepB S t M x = true := by
          unfold keepB
          rw [← HX.out.2, decide_eq_true hzt]; rfl
        have HL0 := Lib.hid (hmem.out.add HX.out.1 hlx hkp)
        have HLL := Lib.hid (HL0.out.len HI.out HFL.out)
        have hbx : ¬ onB A bm ∧ ¬ onB A (w.heap.size + 1) := ⟨fun e => by have := HSL.out.2 _ e; omega, fun e => by have := HSL.out.2 _ e; omega⟩
        go_wp2_with (at_builtin; refine wpList_append_sl _ rfl _ _ 29 43 rfl Try.underlying29 info_rlit rfl (by decide) (by decide) A C.length c (lsC C) rfl (SlV.alloc HSL.out.1 _) (by omega) ⟨w3.heap.size, 0, none⟩ 1 1 [.int .i32 x] rfl rfl (box_news w3 43 [.int .i32 x]) (by intro u hu; simp at hu; subst hu; rfl) (by decide) (by decide) ?_)
        intro g' c7 w7 hr7 hg7 hk7
        have hk8 := (Kf.alloc (Kf.refl (fun i => onB A i) w3) (.cells #[.int .i32 x] 43)).trans (hk7 (fun i => onB A i) (fun i hi => hi)) (fun i hi => .inl hi)
        have HR7 := Lib.hid (ranges_kf hrg1 hk8 hbx.1 hbx.2)
        have HB7 : Hid (Below w1.heap.size w1 w7) := HB3.out.trans (hk8.below (by have := HB3.out.size; omega) (fun i hi => Nat.le_of_lt (HSL.out.2 i hi)))
        have HS7 : Hid (SlV 43 1 w7 (some ⟨g', 0, none⟩) (C ++ [x]).length c7 (lsC (C ++ [x])) ∧ ∀ i, onB (some ⟨g', 0, none⟩) i → w1.heap.size < i) := by
          refine ⟨app_lits hr7, fun i hi => ?_⟩
          rw [onB_some] at hi
          have hi : i = g' := hi
          rw [hi]
          rcases hg7 with e | e
          · exact HSL.out.2 g' e
          · have e : (w3.alloc (.cells #[.int .i32 x] 43)).heap.size ≤ g' := by simpa using e
            have h2 : (w3.alloc (.cells #[.int .i32 x] 43)).heap.size = w3.heap.size + 1 := by simp
            have h3 := HB3.out.size
            omega
        have hz7 : w1.heap.size < w7.heap.size := by have := HS7.out.1.lt g' ⟨_, rfl, rfl⟩; have := HS7.out.2 g' ⟨_, rfl, rfl⟩; omega
        have hml : w7.rangeLeft bm (w.heap.size + 1) < wr.rangeLeft bm (w.heap.size + 1) := by rw [HR7.out.left_eq, hrg.left_eq]; exact hlt
        have hCl : (C ++ [x]).length = C.length + 1 := by simp
        clear hr7 hg7 hk7 hk8
        go_wp2_with fail
        go_roundw
        case rel => exact ⟨_, _, some ⟨g', 0, none⟩, c7, C ++ [x], by rw [hCl], HR7.out, HS7, HL0, HB7, hz7, HLL.out⟩
        case measure => exact hml
      · have tz : (z == (t : Int)) = false := by simpa using hzt
        have hkp0 : keepB S t M x = !sparB S M x := by
          unfold keepB
          rw [← HX.out.2, decide_eq_false hzt]; rfl
        have HR3 : Hid (∀ W, Below w3.heap.size w3 W → W.ranges Try.prog 43 (plainElem Try.prog 3) bm (w.heap.size + 1) n D (fun z => lf z && !z.sameKey (.int .i32 x)) cnt1) := fun W hW => ranges_kf hrg1 (Kf.of_below (F := fun _ => False) hW) (fun e => e) (fun e => e)
        generalize sparB S M x = sp at *
        cases sp with
        | true =>
          go_wp2_with fail
          refine HSP.out.mono ?_
          rintro e w4 ⟨rfl, hB⟩
          have HB4 := Lib.hid hB
          have HSL2 : Hid (SlV 43 1 w4 A C.length c (lsC C) ∧ ∀ j, onB A j → w1.heap.size < j) := ⟨HSL.out.1.below HB4.out, HSL.out.2⟩
          have HB3' : Hid (Below w1.heap.size w1 w4) := HB3.out.trans (HB4.out.mono (by have := HB3.out.size; omega))
          have hrg4 := HR3.out w4 HB4.out
          have hsz4 : w1.heap.size < w4.heap.size := by have := HB4.out.size; omega
          clear HSL HB3 hB HSP HR3
          revert HSL2 HB3'
          intro HSL HB3
          have hkp : keepB S t M x = false := by rw [hkp0]; rfl
          have HL0 := Lib.hid (hmem.out.skip hlx hkp)
          have hml : w4.rangeLeft bm (w.heap.size + 1) < wr.rangeLeft bm (w.heap.size + 1) := by rw [hrg4.left_eq, hrg.left_eq]; exact hlt
          go_wp2_with fail
          go_roundw
          case rel => exact ⟨_, _, A, c, C, rfl, hrg4, HSL, HL0, HB3, hsz4, hcl⟩
          case measure => exact hml
        | false =>
          go_wp2_with fail
          refine HSP.out.mono ?_
          rintro e w4 ⟨rfl, hB⟩
          have HB4 := Lib.hid hB
          have HSL2 : Hid (SlV 43 1 w4 A C.length c (lsC C) ∧ ∀ j, onB A j → w1.heap.size < j) := ⟨HSL.out.1.below HB4.out, HSL.out.2⟩
          have HB3' : Hid (Below w1.heap.size w1 w4) := HB3.out.trans (HB4.out.mono (by have := HB3.out.size; omega))
          have hrg4 := HR3.out w4 HB4.out
          have hsz4 : w1.heap.size < w4.heap.size := by have := HB4.out.size; omega
          clear HSL HB3 hB HSP HR3
          revert HSL2 HB3'
          intro HSL HB3
          have hkp : keepB S t M x = true := by rw [hkp0]; rfl
          have HL0 := Lib.hid (hmem.out.add HX.out.1 hlx hkp)
          have HLL := Lib.hid (HL0.out.len HI.out HFL.out)
          have hbx : ¬ onB A bm ∧ ¬ onB A (w.heap.size + 1) := ⟨fun e => by have := HSL.out.2 _ e; omega, fun e => by have := HSL.out.2 _ e; omega⟩
          go_wp2_with (at_builtin; refine wpList_append_sl _ rfl _ _ 29 43 rfl Try.underlying29 info_rlit rfl (by decide) (by decide) A C.length c (lsC C) rfl (SlV.alloc HSL.out.1 _) (by omega) ⟨w4.heap.size, 0, none⟩ 1 1 [.int .i32 x] rfl rfl (box_news w4 43 [.int .i32 x]) (by intro u hu; simp at hu; subst hu; rfl) (by decide) (by decide) ?_)
          intro g' c7 w7 hr7 hg7 hk7
          have hk8 := (Kf.alloc (Kf.refl (fun i => onB A i) w4) (.cells #[.int .i32 x] 43)).trans (hk7 (fun i => onB A i) (fun i hi => hi)) (fun i hi => .inl hi)
          have HR7 := Lib.hid (ranges_kf hrg4 hk8 hbx.1 hbx.2)
          have HB7 : Hid (Below w1.heap.size w1 w7) := HB3.out.trans (hk8.below (by have := HB3.out.size; omega) (fun i hi => Nat.le_of_lt (HSL.out.2 i hi)))
          have HS7 : Hid (SlV 43 1 w7 (some ⟨g', 0, none⟩) (C ++ [x]).length c7 (lsC (C ++ [x])) ∧ ∀ i, onB (some ⟨g', 0, none⟩) i → w1.heap.size < i) := by
            refine ⟨app_lits hr7, fun i hi => ?_⟩
            rw [onB_some] at hi
            have hi : i = g' := hi
            rw [hi]
            rcases hg7 with e | e
            · exact HSL.out.2 g' e
            · have e : (w4.alloc (.cells #[.int .i32 x] 43)).heap.size ≤ g' := by simpa using e
              have h2 : (w4.alloc (.cells #[.int .i32 x] 43)).heap.size = w4.heap.size + 1 := by simp
              have h3 := HB3.out.size
              omega
          have hz7 : w1.heap.size < w7.heap.size := by have := HS7.out.1.lt g' ⟨_, rfl, rfl⟩; have := HS7.out.2 g' ⟨_, rfl, rfl⟩; omega
          have hml : w7.rangeLeft bm (w.heap.size + 1) < wr.rangeLeft bm (w.heap.size + 1) := by rw [HR7.out.left_eq, hrg.left_eq]; exact hlt
          have hCl : (C ++ [x]).length = C.length + 1 := by simp
          clear hr7 hg7 hk7 hk8
          go_wp2_with fail
          go_roundw
          case rel => exact ⟨_, _, some ⟨g', 0, none⟩, c7, C ++ [x], by rw [hCl], HR7.out, HS7, HL0, HB7, hz7, HLL.out⟩
          case measure => exact hml
end Go.Proofs.Ytdecejhobefefaa
