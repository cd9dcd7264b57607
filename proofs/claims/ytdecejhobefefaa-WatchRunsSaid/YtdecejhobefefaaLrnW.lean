/- How many levels literals have; what was decided stands first at its level. -/
import Derived.Test.YtdecejhobefefaaLrnV
import Derived.OpenShut
namespace Go.Proofs.Ytdecejhobefefaa
open Go.Shelf Go.RowKit Go.Lib LitM TrailM EngM

section
variable {S : Eng}
theorem deci_new (n : Nat) : DecI (newE n) := fun j x hx => by simp [newE] at hx
theorem deci_add (h : DecI S) (ys : List Int) (both : Bool) : DecI (addF S ys both) := h
theorem deci_decide (hI : Inv S) (h : DecI S) (l : Int) : DecI (decideF S l) := fun j x hx hr => by
  have hx : (S.L ++ [⟨l, S.le.length + 1, -1⟩])[j]? = some x := hx
  have hj := (List.getElem?_eq_some_iff.1 hx).1
  rcases Nat.lt_or_ge j S.L.length with e | e
  · rw [List.getElem?_append_left e] at hx
    obtain ⟨h1, h2⟩ := h j x hx hr
    refine ⟨h1, fun i y hi hy => h2 i y hi ?_⟩
    have hy : (S.L ++ [⟨l, S.le.length + 1, -1⟩])[i]? = some y := hy
    rw [List.getElem?_append_left (by omega)] at hy
    exact hy
  · have hj2 : j = S.L.length := by simp at hj; omega
    subst hj2
    have : x = ⟨l, S.le.length + 1, -1⟩ := by simpa using hx.symm
    subst this
    refine ⟨by show 1 ≤ S.le.length + 1; omega, fun i y hi hy => ?_⟩
    have hy : (S.L ++ [⟨l, S.le.length + 1, -1⟩])[i]? = some y := hy
    rw [List.getElem?_append_left hi] at hy
    have := (hI.pre.one y (List.mem_of_getElem? hy)).2.2
    show y.lv < S.le.length + 1
    omega
theorem deci_decE (hI : Inv S) (h : DecI S) (l : Int) : DecI (decE S l) := by
  unfold decE
  split
  · exact deci_decide hI h l
  · exact h
theorem deci_ker {S' : Eng} (h : DecI S) (k : Ker S S') : DecI S' := fun j x hx hr => by
  obtain ⟨M, e, hM⟩ := k.L
  rw [e] at hx
  rcases Nat.lt_or_ge j S.L.length with q | q
  · rw [List.getElem?_append_left q] at hx
    obtain ⟨h1, h2⟩ := h j x hx hr
    refine ⟨h1, fun i y hi hy => h2 i y hi ?_⟩
    rw [e, List.getElem?_append_left (by omega)] at hy
    exact hy
  · rw [List.getElem?_append_right q] at hx
    have := (hM x (List.mem_of_getElem? hx)).1
    omega
theorem deci_prop (hI : Inv S) (h : DecI S) : DecI (propF S).1 := deci_ker (S := roomF S) (by exact h) (inv_prop hI).2.1
theorem deci_take (h : DecI S) {S' : Eng} {m : Nat} (e : S'.L = S.L.take m) : DecI S' := fun j x hx hr => by
  rw [e] at hx
  have hj : j < m := by
    have := (List.getElem?_eq_some_iff.1 hx).1
    rw [List.length_take] at this; omega
  rw [List.getElem?_take_of_lt hj] at hx
  obtain ⟨h1, h2⟩ := h j x hx hr
  refine ⟨h1, fun i y hi hy => h2 i y hi ?_⟩
  rw [e, List.getElem?_take_of_lt (by omega)] at hy
  exact hy
theorem deci_back (h : DecI S) (k : Nat) : DecI (backF S k) := by
  unfold backF
  split
  · exact h
  · exact deci_take h rfl
theorem deci_backE (h : DecI S) (v : Int) : DecI (backE S v) := by
  unfold backE
  split
  · exact deci_back h _
  · exact h
theorem deci_addS (h : DecI S) {xs : List Int} {e : Ending} {S' : Eng} (ha : AddS S xs e S') : DecI S' := by
  rcases ha with ⟨_, _, rfl⟩ | ⟨_, _, ys, _, rfl⟩
  · exact h
  · exact h
end
/-- The levels of literals, each once. -/
def putV (S : Eng) (M : List Int) (l : Int) : List Int := if lvl S l < 0 ∨ lvl S l ∈ M then M else M ++ [lvl S l]
def lvsZ (S : Eng) (xs : List Int) : List Int := xs.foldl (putV S) []
theorem lvsZ_snoc (S : Eng) (xs : List Int) {j : Nat} {l : Int} (h : xs[j]? = some l) : lvsZ S (xs.take (j + 1)) = putV S (lvsZ S (xs.take j)) l := by
  unfold lvsZ
  rw [List.take_add_one, h, List.foldl_append]; rfl
theorem kd3 : Maps.Keyed Try.prog 3 := Maps.int_keyed Try.underlying3
theorem key64 {l : Int} (h : (Go.Lit.int .i64 l).wf = true) : keyOf Try.prog 3 (.int .i64 l) = some (.int .i64 l) := Maps.keyOf_int_mk Try.underlying3 h
/-- A map's keys are M. -/
def MapV (w : World) (bm n : Nat) (M : List Int) : Prop := ∃ D : DataW Unit, w.ownsMap Try.prog 3 (plainElem Try.prog 3) bm n D ∧ Maps.size D = M.length ∧ ∀ z, (Go.Lit.int .i64 z).wf = true → Maps.has D (.int .i64 z) = decide (z ∈ M)
theorem MapV.same {w w' : World} {bm n : Nat} {M : List Int} (h : MapV w bm n M) (hb : w'.heap[bm]? = w.heap[bm]?) : MapV w' bm n M := by
  obtain ⟨D, ⟨es, clock, h1, h2⟩, k⟩ := h
  exact ⟨D, ⟨es, clock, by rw [hb]; exact h1, h2⟩, k⟩
theorem MapV.put {w w' : World} {bm n n' : Nat} {M : List Int} {D : DataW Unit} (h : w.ownsMap Try.prog 3 (plainElem Try.prog 3) bm n D) (hs : Maps.size D = M.length) (hk : ∀ z, (Go.Lit.int .i64 z).wf = true → Maps.has D (.int .i64 z) = decide (z ∈ M)) {l : Int} (hl : (Go.Lit.int .i64 l).wf = true) (d : DataW Unit)
    (h' : w'.ownsMap Try.prog 3 (plainElem Try.prog 3) bm n' (D.put (.int .i64 l) d)) : MapV w' bm n' (if l ∈ M then M else M ++ [l]) := by
  refine ⟨_, h', ?_, fun z hz => ?_⟩
  · rw [Maps.size_put (h.tidy kd3), hk l hl]
    by_cases e : l ∈ M
    · simp [e, hs]
    · simp [e, hs]
  · by_cases e : z = l
    · subst e
      rw [Maps.has_put_same h.isMap (kd3.key (key64 hl))]
      by_cases e2 : z ∈ M
      · simp [e2]
      · simp [e2]
    · rw [Maps.has_put_other (fun e2 => by injection e2; contradiction), hk z hz]
      by_cases e2 : l ∈ M
      · simp [e2]
      · simp [e2, e]
set_option maxHeartbeats 6400000 in
set_option maxRecDepth 100000 in
theorem levels_any {w : World} {b : Nat} {q : Pm} {S : Eng} {d : Nat} {xs : List Int} {A : Option Addr} {m c : Nat} (h : E6 w b q S d) (hn : S.n ≤ 90000) (hxs : SlV 43 1 w A m c (lsC xs)) (hl : xs.length = m) (h32 : In32 xs) (hm : m ≤ 100000) :
    Calls Try.prog 34 #[.pointer (some ⟨b, 0, none⟩), .slice A m c] w fun e w' => e = .returned (.int .i64 ((lvsZ S xs).length : Int)) ∧ Below w.heap.size w w' := by
  obtain ⟨W0, hW0⟩ : ∃ W0, W0 = w.alloc (.map #[] 0) := ⟨_, rfl⟩
  have hb0 : Below w.heap.size w W0 := by rw [hW0]; exact (Below.refl _ _).alloc (Nat.le_refl _) _
  have HE := Lib.hid (h.below hb0)
  have HS := Lib.hid (hxs.below hb0)
  have HXB := Lib.hid hxs.lt
  have HL := Lib.hid hl
  have H32 := Lib.hid h32
  have HN := Lib.hid hn
  have HB0 := Lib.hid hb0
  have hmm := @run_makeMap Try.prog
  have HM0 : Hid (MapV W0 w.heap.size 0 []) := by
    rw [hW0]
    exact ⟨_, World.ownsMap_made _ _ _ _, rfl, fun z _ => by simp [Maps.has]⟩
  have HOB : Hid (q.own w.heap.size = .no) := h.fr _ (Nat.le_refl _)
  clear h hxs hl h32 hn hb0
  go_enter Try.func34, Try.ntmps34
  go_wp2_with fail
  rw [← hW0]
  go_loopw [12] (fun v wr => ∃ (j n' : Nat) (M' : List Int), v = .int .i64 (j : Int) ∧ j ≤ m ∧ n' ≤ j ∧ Hid (M' = lvsZ S (xs.take j)) ∧ Hid (MapV wr w.heap.size n' M') ∧ Hid (Kf (fun k => k = w.heap.size) W0 wr)) (fun v _ => m - (intOf v).toNat)
  case atStart => exact ⟨0, 0, [], rfl, by omega, by omega, Lib.hid rfl, HM0, Lib.hid (Kf.refl _ _)⟩
  case round =>
    obtain ⟨j, n', M', rfl, hj, hn', hM', hM, hK⟩ := hrel
    by_cases hlt : j < m
    · have tj : decide (j < m) = true := decide_eq_true hlt
      have tj2 : decide ((j : Int) < (m : Int)) = true := decide_eq_true (by omega)
      have hEr := HE.out.kept hK.out (fun k ho e => ho (by rw [e]; exact HOB.out))
      have HEr := Lib.hid hEr
      have hSr := HS.out.kept hK.out (fun i hi e => by have := HXB.out i hi; omega)
      obtain ⟨g, rfl, hrow⟩ := hSr.row (by omega)
      have hcm : wr.cell? ⟨g, j, none⟩ = some (.int .i32 (xs.getD j 0)) := hrow.cell (show j < m * 1 by omega)
      obtain ⟨l0, l1⟩ := H32.out j
      have hbd := hrow.bd
      obtain ⟨hbd1, hbd2⟩ := hbd
      have hxj : xs[j]? = some (xs.getD j 0) := by
        have := HL.out
        rw [List.getD, List.getElem?_eq_getElem (by omega)]; rfl
      have HSN : Hid (lvsZ S (xs.take (j + 1)) = putV S M' (xs.getD j 0)) := by unfold Hid; rw [lvsZ_snoc S xs hxj, ← hM'.out]
      clear hEr hSr hrow hxj
      generalize xs.getD j 0 = l at *
      have h0 := HEr.out.h0
      have hlb : -1 ≤ lvl S l ∧ lvl S l ≤ 90000 := lvl_bd HEr.out HN.out l
      have HVq : Hid (∀ V : World, Calls Try.prog 47 #[.int .i32 l] V fun e w' => e = .returned (.int .i64 (varZ l)) ∧ w' = V) := fun V => (var_any l V l0 l1).mono fun e w' ⟨h1, h2⟩ => ⟨h1, h2.symm⟩
      have HV : Hid (∀ r, Calls Try.prog 32 #[.pointer (some ⟨q.bt, 0, none⟩), .int .i64 (varZ l)] (wr.drewN r) fun e w' => e = .returned (.int .i64 (lvl S l)) ∧ w' = wr.drewN r) := fun r => by
        obtain ⟨F, gm, cm, ao, co, az, cz, hQ, hO, _⟩ := (HEr.out.drewN r).trail
        exact (tlevel_nat (wr.drewN r) hQ hO.pre (by have := HN.out; omega) (varZ l)).mono fun e w' ⟨h1, h2⟩ => ⟨h1, h2.symm⟩
      have HW : Hid ((Go.Lit.int .i64 (lvl S l)).wf = true) := wf64 (by omega) (by omega)
      have HPV : Hid (putV S M' l = if lvl S l < 0 ∨ lvl S l ∈ M' then M' else M' ++ [lvl S l]) := rfl
      generalize lvl S l = z at *
      generalize varZ l = v at *
      go_upto_region 5 with (fail)
      go_quiet (first | (go_at_call 47; exact Calls.quiet_of_same (HVq.out _)) | (go_at_call 32; exact Calls.quiet_of_same (HV.out _)))
      obtain ⟨W, hW⟩ : ∃ W, W = wr.drewN nq := ⟨_, rfl⟩
      have HMW : Hid (MapV W w.heap.size n' M') := by rw [hW]; exact hM.out.same rfl
      have HKW : Hid (Kf (fun k => k = w.heap.size) W0 W) := by rw [hW]; exact hK.out.drewN nq
      rw [← hW]
      clear hM hK HEr hcm h0 HVq HV hW
      by_cases hz : 0 ≤ z
      · have tz : decide (0 ≤ z) = true := decide_eq_true hz
        obtain ⟨D, hown, hsz, hkk⟩ := HMW.out
        have HOWN := Lib.hid hown
        have HSZ := Lib.hid hsz
        have HKK := Lib.hid hkk
        clear hsz hkk
        go_wp2_with (at_lookup; refine wpList_lookup_own_int _ rfl _ _ 105 rfl 3 3 .i64 kd3 Try.underlying105 Try.underlying3 (zero_int _) w.heap.size n' D rfl hown _ _ rfl (key64 HW.out) ?_)
        intro cc _ _
        go_wp2_with (at_mapUpdate; refine wpList_mapUpdate_own _ rfl _ _ _ 105 rfl 3 3 kd3 Try.underlying105 _ w.heap.size n' D rfl hown (by unfold maxLen; omega) _ _ _ rfl rfl (key64 HW.out) _ [] (plainElem_int Try.underlying3 (RowKit.wrap64_wf _)) ?_)
        intro w1 hown1 hgrow1
        have HM1 := Lib.hid (MapV.put HOWN.out HSZ.out HKK.out HW.out _ hown1)
        have HK1 : Hid (Kf (fun k => k = w.heap.size) W0 w1) := HKW.out.grown hgrow1 (fun i e => .inl (by injection e with e; exact e.symm))
        clear hown hown1 hgrow1
        go_wp2_with fail
        go_roundw
        case rel => exact ⟨j + 1, n' + 1, _, by go_num, by omega, by omega, by unfold Hid; rw [HSN.out, HPV.out]; simp only [show ¬ z < 0 by omega, false_or], HM1, HK1⟩
        case measure => simp [intOf]; omega
      · have tz : decide (0 ≤ z) = false := decide_eq_false hz
        go_wp2_with fail
        go_roundw
        case rel => exact ⟨j + 1, n', M', by go_num, by omega, by omega, by unfold Hid; rw [HSN.out, HPV.out, if_pos (.inl (by omega))], HMW, HKW⟩
        case measure => simp [intOf]; omega
    · have tj : decide (j < m) = false := decide_eq_false hlt
      have tj2 : decide ((j : Int) < (m : Int)) = false := decide_eq_false (by omega)
      obtain rfl : j = m := by omega
      have hfull : xs.take j = xs := List.take_of_length_le (by have := HL.out; omega)
      rw [hfull] at hM'
      obtain ⟨D, hown, hsz, _⟩ := hM.out
      go_wp2_with (at_len; refine wpList_len_own _ rfl _ 105 rfl 3 3 Try.underlying105 _ w.heap.size n' D rfl hown ?_)
      go_ret
      exact ⟨by rw [← hM'.out]; rfl, HB0.out.trans (hK.out.below HB0.out.size (fun k hk => by omega))⟩
end Go.Proofs.Ytdecejhobefefaa
