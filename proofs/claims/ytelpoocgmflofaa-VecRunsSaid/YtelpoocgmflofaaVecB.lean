/- Lists of edges, made one by one; the contracts of turn, where, sum, difference. -/
import Derived.Test.YtelpoocgmflofaaVecA
namespace Go.Proofs.Ytelpoocgmflofaa
open Go.RowKit GatM VecM

/-- k edges that were made, each of which says what it should. -/
structure ResK (gs gk : Gs) (l : List Nat) (k K : Nat) (C : Prop) (F : List Bool → Nat → Bool) : Prop where
  wf : Wf gk
  ex : Ex gs gk
  inn : AllIn gk l
  len : gk.length ≤ gs.length + K
  ll : l.length = k
  cst : C → gk = gs ∧ Cst l
  say : ∀ vals j, j < k → sayE vals gk (l.getD j 0) = F vals j
section
variable {gs gk g2 : Gs} {l : List Nat} {k K : Nat} {C : Prop} {F : List Bool → Nat → Bool}
theorem ResK.nil (h : Wf gs) : ResK gs gs [] 0 0 C F := ⟨h, Ex.refl _, fun _ hx => absurd hx List.not_mem_nil, Nat.le_refl _, rfl, fun _ => ⟨rfl, fun _ hx => absurd hx List.not_mem_nil⟩, fun _ j hj => absurd hj (Nat.not_lt_zero j)⟩
theorem getD_snoc {l : List Nat} {x j : Nat} (hj : j < l.length) : (l ++ [x]).getD j 0 = l.getD j 0 := by rw [List.getD, List.getD, List.getElem?_append_left hj]
theorem getD_snoc_end (l : List Nat) (x : Nat) : (l ++ [x]).getD l.length 0 = x := by rw [List.getD, List.getElem?_append_right (Nat.le_refl _)]; simp
/-- Behind other operations. -/
theorem ResK.move {K2 : Nat} (h : ResK gs gk l k K C F) (hw : Wf g2) (hx : Ex gk g2) (hl : g2.length ≤ gk.length + K2) (hc : C → g2 = gk) : ResK gs g2 l k (K + K2) C F :=
  ⟨hw, h.ex.trans hx, h.inn.ex hx, by have := h.len; omega, h.ll, fun c => ⟨(hc c).trans (h.cst c).1, (h.cst c).2⟩, fun vals j hj => by
    have hj2 : j < l.length := by rw [h.ll]; exact hj
    rw [say_ex hx (h.inn _ (by rw [List.getD, List.getElem?_eq_getElem hj2]; exact List.getElem_mem hj2))]
    exact h.say vals j hj⟩
theorem ResK.snoc {r K2 : Nat} {C' : Prop} {f : List Bool → Bool} (h : ResK gs gk l k K C F) (hr : Res gk g2 r K2 C' f) (hc : C → C') (hf : ∀ vals, f vals = F vals k) : ResK gs g2 (l ++ [r]) (k + 1) (K + K2) C F := by
  have m := h.move hr.wf hr.ex hr.len fun c => (hr.cst (hc c)).1
  refine ⟨m.wf, m.ex, fun x hx => ?_, m.len, by rw [List.length_append, h.ll]; rfl, fun c => ⟨(m.cst c).1, fun x hx => ?_⟩, fun vals j hj => ?_⟩
  · rcases List.mem_append.1 hx with q | q
    · exact m.inn x q
    · rw [List.mem_singleton] at q; rw [q]; exact hr.lt
  · rcases List.mem_append.1 hx with q | q
    · exact (m.cst c).2 x q
    · rw [List.mem_singleton] at q; rw [q]; exact (hr.cst (hc c)).2
  · by_cases e : j < k
    · rw [getD_snoc (by rw [h.ll]; exact e)]; exact m.say vals j e
    · obtain rfl : j = k := by omega
      have := getD_snoc_end l r
      rw [h.ll] at this
      rw [this, hr.say, hf]
theorem ResK.up (h : ResK gs gk l k K C F) {x : Nat} (hx : x / 2 < gs.length) : x / 2 < gk.length := Nat.lt_of_lt_of_le hx h.ex.len
/-- They are a number. -/
theorem ResK.fin (h : ResK gs gk l k K C F) (hk : 0 < k) : ResL gs gk l k K C fun vals => nB (F vals) k :=
  ⟨h.wf, h.ex, h.inn, h.len, h.ll, h.cst, fun vals => by
    rw [← h.ll] at hk ⊢
    exact valE_of hk fun i hi => h.say vals i (by rw [← h.ll]; exact hi)⟩
end
/-- The list that is made, beside the circuit. -/
structure OutAt (B : Nat) (w0 w : World) (c : GrC) (g m : Nat) (l : List Nat) (wr : World) (ck : GrC) (gk : Gs) : Prop where
  tr : LvTo B w0 w wr c ck gk
  row : RowV 25 1 wr g m m (numF .u32 l)
  ap : ¬ ck.own g
  new : w.heap.size ≤ g
section
variable {B : Nat} {w0 w w1 w3 wr : World} {c c3 ck : GrC} {g m b : Nat} {l : List Nat} {gs gk g3 : Gs}
theorem OutAt.put (h : OutAt B w0 w c g m l wr ck gk) (hB : B ≤ w.heap.size) (hT : LvTo B w0 wr w3 ck c3 g3) (hl : l.length < m) (r : Nat) :
    w3.cell? ⟨g, l.length, none⟩ = some (.int .u32 0) ∧ w3.frozen? ⟨g, l.length, none⟩ = false ∧ OutAt B w0 w c g m (l ++ [r]) (w3.setCell ⟨g, l.length, none⟩ (.int .u32 (r : Int))) c3 g3 := by
  obtain ⟨k1, k2⟩ := hT.gst g h.row.lt h.ap
  have hr := h.row.same k1
  refine ⟨?_, hr.free _, (h.tr.trans hT).set h.new hB k2 _ _, (hr.set (show l.length < m * 1 by omega) _).congr fun j _ => ?_, k2, h.new⟩
  · rw [hr.cell (show l.length < m * 1 by omega)]
    unfold numF
    rw [List.getD, List.getElem?_eq_none (Nat.le_refl _)]
    rfl
  · unfold updV numF
    by_cases e : j = l.length
    · rw [if_pos e, e, getD_snoc_end]
    · rw [if_neg e]
      by_cases e2 : j < l.length
      · rw [getD_snoc e2]
      · rw [List.getD, List.getD, List.getElem?_eq_none (by simp; omega), List.getElem?_eq_none (by omega)]
theorem OutAt.start (h : LvG B w0 w c gs) {C : Array Value} (hm : m ≤ 1000) (h1 : C.size = m * 1) (h2 : ∀ j, j < m * 1 → C[j]? = some (.int .u32 0)) : OutAt B w0 w c w.heap.size m [] (w.alloc (.cells C 25)) c gs :=
  ⟨.ofBelow h ((Below.refl _ _).alloc (Nat.le_refl _) _), RowV.made (by omega) h1 fun j hj => (h2 j hj).trans rfl, fun ho => by have := h.at_.lt ho; omega, Nat.le_refl _⟩
theorem OutAt.vc (h : OutAt B w0 w c g m l wr ck gk) (hm : 0 < m) (hl : l.length = m) : VcAt wr ck (some ⟨g, 0, none⟩) m l := by
  have := VcAt.row h.row (l := l) (by omega) (by omega) h.ap (fun _ _ => rfl)
  rwa [hl] at this
theorem OutAt.step (h : OutAt B w0 w c g m l wr ck gk) (hT : LvTo B w0 wr w3 ck c3 g3) : OutAt B w0 w c g m l w3 c3 g3 := by
  obtain ⟨k1, k2⟩ := hT.gst g h.row.lt h.ap
  exact ⟨h.tr.trans hT, h.row.same k1, k2, h.new⟩
theorem OutAt.below (h : OutAt B w0 w c g m l wr ck gk) (hb : Below wr.heap.size wr w3) : OutAt B w0 w c g m l w3 ck gk := h.step (.ofBelow h.tr.lv hb)
end
/-- What an operation on numbers leaves: n edges in a new list. -/
def VecTo (B : Nat) (w0 w : World) (c : GrC) (gs : Gs) (n K : Nat) (C : Prop) (F : List Bool → Int) (e : Ending) (w' : World) : Prop :=
  ∃ (g cp : Nat) (l : List Nat) (gs' : Gs) (c' : GrC), e = .returned (.slice (some ⟨g, 0, none⟩) n cp) ∧ n ≤ cp ∧ ResL gs gs' l n K C F ∧ LvTo B w0 w w' c c' gs' ∧ VcAt w' c' (some ⟨g, 0, none⟩) n l ∧ w.heap.size ≤ g
theorem OutAt.fin {B : Nat} {w0 w wr : World} {c ck : GrC} {g m K : Nat} {l : List Nat} {gs gk : Gs} {C C' : Prop} {F : List Bool → Nat → Bool} {F' : List Bool → Int} {K' : Nat} (h : OutAt B w0 w c g m l wr ck gk) (hr : ResK gs gk l m K C F) (hm : 0 < m) (hK : K ≤ K') (hC : C' → C) (hF : ∀ vals, nB (F vals) m = F' vals) :
    VecTo B w0 w c gs m K' C' F' (.returned (.slice (some ⟨g, 0, none⟩) m m)) wr :=
  ⟨g, m, l, gk, ck, rfl, Nat.le_refl _, (hr.fin hm).congr hK hC hF, h.tr, h.vc hm hr.ll, h.new⟩
theorem info_vec : (Try.prog.info? 25).map (fun i => (i.zero, i.size, i.bytes)) = some (some (.int .u32 0), 1, 4) := by kernel_rfl
/-- make of so many edges. -/
theorem make_vec (n : Nat) (hn : n ≤ 1000) : ∃ C : Array Value, C.size = n * 1 ∧ (∀ j, j < n * 1 → C[j]? = some (.int .u32 0)) ∧ ∀ w : World, (Instr.makeSlice 27 (.int .i64 (n : Int)) (.int .i64 (n : Int))).run Try.prog w = .ok (.slice (some ⟨w.heap.size, 0, none⟩) n n) (w.alloc (.cells C 25)) := by
  obtain ⟨C, h1, h2, h3⟩ := make_sl (P := Try.prog) 27 25 Try.underlying27 info_vec rfl (by decide) (by decide) n (by omega)
  refine ⟨C, h1, fun j hj => ?_, h3⟩
  rw [h2 j hj]
  have : j % 1 = 0 := Nat.mod_one j
  rw [this]; rfl
theorem Wf_of {B : Nat} {w0 w : World} {c : GrC} {gs : Gs} (h : LvG B w0 w c gs) : Wf gs := h.wf
set_option maxHeartbeats 1600000 in
set_option maxRecDepth 100000 in
theorem vturn_any {B : Nat} {w0 w : World} {c : GrC} {gs : Gs} {b : Nat} (h : LvG B w0 w c gs) (hm : VMk w c b) {A : Option Addr} {n cn : Nat} {l : List Nat} (hl : VcAt w c A n l) (hin : AllIn gs l) (hn : gs.length ≤ 70000) (hnn : n ≤ 100) :
    Calls Try.prog 66 #[.pointer (some ⟨b, 0, none⟩), .slice A n cn] w (VecTo B w0 w c gs n 0 (Cst l) fun vals => -1 - valE vals gs l) := by
  have hpos := hl.pos
  have hll := hl.len
  obtain ⟨C, hC1, hC2, hmk⟩ := make_vec n (by omega)
  have hmk0 := hmk w
  have H0 : Hid (OutAt B w0 w c w.heap.size n [] (w.alloc (.cells C 25)) c gs ∧ ResK gs gs [] 0 0 (Cst l) (fun vals i => !bitE vals gs l i)) := ⟨OutAt.start h (by omega) hC1 hC2, ResK.nil h.wf⟩
  have HM := Lib.hid hm
  have HL := Lib.hid hl
  have HI := Lib.hid hin
  have HN := Lib.hid hn
  have HB := Lib.hid h.hB
  clear hC1 hC2 h hm hl hin hn hmk
  go_enter Try.func66, Try.ntmps66
  go_wp2_with fail
  go_loopw [13] (fun i wr => ∃ (k : Nat) (o : List Nat) (ck : GrC) (gk : Gs), i = .int .i64 (k : Int) ∧ k ≤ n ∧ Hid (OutAt B w0 w c w.heap.size n o wr ck gk ∧ ResK gs gk o k 0 (Cst l) (fun vals i => !bitE vals gs l i))) (fun i _ => n - (intOf i).toNat)
  case atStart => exact ⟨0, [], c, gs, rfl, Nat.zero_le _, H0⟩
  case round =>
    obtain ⟨k, o, ck, gk, rfl, hk, HO⟩ := hrel
    clear H0
    by_cases hlt : k < n
    · have tk : decide ((k : Int) < (n : Int)) = true := decide_eq_true (by omega)
      have tk2 : decide (k < n) = true := decide_eq_true hlt
      have tk3 : decide ((n : Int) ≤ (k : Int)) = false := decide_eq_false (by omega)
      obtain ⟨ho1, ho2⟩ := HO.out
      obtain ⟨ba, oa, rfl, _, _, hc⟩ := (HL.out.to ho1.tr).at_
      have hx := hc k hlt
      have hin : l.getD k 0 / 2 < gs.length := HI.out _ (nmem.2 ⟨k, by omega, rfl⟩)
      have HC := Lib.hid (vnot_any ho1.tr.lv (HM.out.to ho1.tr) (l.getD k 0) (ho2.up hin) (by have := HN.out; have := ho2.len; omega))
      have HS : Hid (∀ w3 r g3 c3, Res gk g3 r 0 (l.getD k 0 < 2) (fun vals => !sayE vals gk (l.getD k 0)) → LvTo B w0 wr w3 ck c3 g3 → w3.cell? ⟨w.heap.size, k, none⟩ = some (.int .u32 0) ∧ w3.frozen? ⟨w.heap.size, k, none⟩ = false ∧ Hid (OutAt B w0 w c w.heap.size n (o ++ [r]) (w3.setCell ⟨w.heap.size, k, none⟩ (.int .u32 (r : Int))) c3 g3 ∧ ResK gs g3 (o ++ [r]) (k + 1) 0 (Cst l) (fun vals i => !bitE vals gs l i))) := fun w3 r g3 c3 h1 h2 => by
        have := ho1.put HB.out h2 (by rw [ho2.ll]; exact hlt) r
        rw [ho2.ll] at this
        refine ⟨this.1, this.2.1, this.2.2, ho2.snoc h1 (fun hc => hc _ (nmem.2 ⟨k, by omega, rfl⟩)) fun vals => ?_⟩
        show (!sayE vals gk (l.getD k 0)) = !sayE vals gs (atL l k)
        rw [atL_lt (by omega), say_ex ho2.ex hin]
      clear hc ho1 ho2 hin HO
      generalize l.getD k 0 = x at *
      go_wp2_with fail
      refine HC.out.mono ?_
      rintro e w3 ⟨r, g3, c3, rfl, h1, h2⟩
      obtain ⟨d1, d2, HN2⟩ := HS.out w3 r g3 c3 h1 h2
      clear h1 h2 HS HC hx
      go_wp2_with fail
      go_roundw
      case rel => exact ⟨k + 1, o ++ [r], c3, g3, by go_num, by omega, HN2⟩
      case measure => simp [intOf]; omega
    · have tk : decide ((k : Int) < (n : Int)) = false := decide_eq_false (by omega)
      have tk2 : decide (k < n) = false := decide_eq_false hlt
      obtain rfl : k = n := by omega
      have HE : Hid (VecTo B w0 w c gs k 0 (Cst l) (fun vals => -1 - valE vals gs l) (.returned (.slice (some ⟨w.heap.size, 0, none⟩) k k)) wr) := HO.out.1.fin HO.out.2 hpos (Nat.le_refl _) (fun q => q) fun vals => by
        obtain ⟨m, rfl⟩ : ∃ m, k = m + 1 := ⟨k - 1, by omega⟩
        rw [nB_not, valE_at (by omega)]
      clear HO
      go_wp2_with fail
      go_ret
      exact HE.out
end Go.Proofs.Ytelpoocgmflofaa
