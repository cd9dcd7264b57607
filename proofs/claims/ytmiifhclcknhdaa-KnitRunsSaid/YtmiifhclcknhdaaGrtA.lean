/- A circuit's contracts: Len, has, Parts, add, both, Input. -/
import Derived.Test.YtmiifhclcknhdaaGrt
namespace Go.Proofs.Ytmiifhclcknhdaa
open Go.RowKit GatM

/-- A circuit's blocks. -/
structure GrC where
  bg : Nat
  g : Nat
  cg : Nat
  Ai : Option Addr
  ci : Nat
  bm : Nat
  n : Nat
/-- Both edges of each gate, as cells. -/
def gatesF (gs : Gs) (j : Nat) : Value := .int .u32 ((if j % 2 = 0 then (getG gs (j / 2)).1 else (getG gs (j / 2)).2 : Nat) : Int)
def GrC.cells (c : GrC) (m k : Nat) : Array Value := #[.slice (some ⟨c.g, 0, none⟩) m c.cg, .slice c.Ai k c.ci, .map (some c.bm)]
/-- Gates gs, INPUTS ins, a map that tells of mp. -/
structure GrAt (w : World) (c : GrC) (gs : Gs) (ins : List Nat) (mp : Gs) : Prop where
  hd : w.heap[c.bg]? = some (.cells (c.cells gs.length ins.length) 64 (0, 0))
  ga : RowV 67 2 w c.g gs.length c.cg (gatesF gs)
  ia : SlN .u32 25 w c.Ai c.ci ins
  ma : MapP w c.bm c.n mp
  nb : c.n ≤ mp.length
/-- Is k one of its blocks? -/
def GrC.own (c : GrC) (k : Nat) : Prop := k = c.bg ∨ k = c.g ∨ onB c.Ai k ∨ k = c.bm
section
variable {w w' : World} {c : GrC} {gs mp : Gs} {ins : List Nat}
theorem GrAt.cells (h : GrAt w c gs ins mp) : w.cell? ⟨c.bg, 0, none⟩ = some (.slice (some ⟨c.g, 0, none⟩) gs.length c.cg) ∧ w.cell? ⟨c.bg, 1, none⟩ = some (.slice c.Ai ins.length c.ci) ∧ w.cell? ⟨c.bg, 2, none⟩ = some (.map (some c.bm)) ∧ ∀ j, w.frozen? ⟨c.bg, j, none⟩ = false := by
  have hh := h.hd
  refine ⟨?_, ?_, ?_, fun j => Lib.frozen_of_heap hh j⟩
  all_goals (rw [Lib.cell_of_heap hh]; rfl)
theorem GrAt.lt (h : GrAt w c gs ins mp) {k : Nat} (hk : c.own k) : k < w.heap.size := by
  rcases hk with rfl | rfl | hk | rfl
  · exact lt_of_heap h.hd
  · exact h.ga.lt
  · exact h.ia.lt k hk
  · exact h.ma.lt
theorem GrAt.same (h : GrAt w c gs ins mp) (hb : ∀ k, c.own k → w'.heap[k]? = w.heap[k]?) : GrAt w' c gs ins mp :=
  ⟨by rw [hb _ (.inl rfl)]; exact h.hd, h.ga.same (hb _ (.inr (.inl rfl))), h.ia.same fun j hj => hb j (.inr (.inr (.inl hj))), h.ma.same (hb _ (.inr (.inr (.inr rfl)))), h.nb⟩
theorem GrAt.below (h : GrAt w c gs ins mp) (hb : Below w.heap.size w w') : GrAt w' c gs ins mp := h.same fun k hk => hb.block k (h.lt hk)
/-- Its blocks lie apart. -/
theorem GrAt.ne_g (h : GrAt w c gs ins mp) : c.bg ≠ c.g := fun e => by
  obtain ⟨cur, h2, _⟩ := h.ga
  have h1 := h.hd
  rw [e, h2] at h1
  injection h1 with h1
  injection h1 with _ h1
  exact absurd h1 (by decide)
theorem GrAt.ne_i (h : GrAt w c gs ins mp) : ¬ onB c.Ai c.bg ∧ ¬ onB c.Ai c.g := by
  have h1 := h.hd
  obtain ⟨cur, h2, _⟩ := h.ga
  rcases h.ia with ⟨e, _⟩ | ⟨g, e, cur3, h3, _⟩
  · rw [e]; exact ⟨onB_none _, onB_none _⟩
  · rw [e, onB_some, onB_some]
    refine ⟨fun e2 => ?_, fun e2 => ?_⟩
    · have e2 : c.bg = g := e2
      rw [e2, h3] at h1
      injection h1 with h1
      injection h1 with _ h1
      exact absurd h1 (by decide)
    · have e2 : c.g = g := e2
      rw [e2, h3] at h2
      injection h2 with h2
      injection h2 with _ h2
      exact absurd h2 (by decide)
theorem GrAt.ne_m (h : GrAt w c gs ins mp) : c.bg ≠ c.bm ∧ c.g ≠ c.bm ∧ ¬ onB c.Ai c.bm := by
  have h1 := h.hd
  obtain ⟨cur, h2, _⟩ := h.ga
  obtain ⟨es, clock, h4⟩ := h.ma.obj
  refine ⟨fun e => ?_, fun e => ?_, fun e => ?_⟩
  · rw [e, h4] at h1; cases h1
  · rw [e, h4] at h2; cases h2
  · rcases h.ia with ⟨e1, _⟩ | ⟨g, e1, cur3, h3, _⟩
    · rw [e1] at e; exact onB_none _ e
    · rw [e1, onB_some] at e
      have e : c.bm = g := e
      rw [e, h3] at h4; cases h4
end
/-- What an operation leaves: the same circuit's struct, and its blocks, and new ones. -/
structure GrTo (w w' : World) (c c' : GrC) (gs : Gs) (ins : List Nat) (mp : Gs) : Prop where
  at_ : GrAt w' c' gs ins mp
  bg : c'.bg = c.bg
  kf : Kf c.own w w'
  new : ∀ k, c'.own k → c.own k ∨ w.heap.size ≤ k
section
variable {w w' w2 : World} {c c' c2 : GrC} {gs mp gs2 mp2 : Gs} {ins ins2 : List Nat}
theorem GrTo.refl (h : GrAt w c gs ins mp) : GrTo w w c c gs ins mp := ⟨h, rfl, Kf.refl _ _, fun _ hk => .inl hk⟩
theorem GrTo.of_below (h : GrAt w c gs ins mp) (hb : Below w.heap.size w w') : GrTo w w' c c gs ins mp := ⟨h.below hb, rfl, Kf.of_below hb, fun _ hk => .inl hk⟩
theorem GrTo.trans (h : GrTo w w' c c' gs ins mp) (k : GrTo w' w2 c' c2 gs2 ins2 mp2) : GrTo w w2 c c2 gs2 ins2 mp2 :=
  ⟨k.at_, k.bg.trans h.bg, h.kf.trans k.kf h.new, fun x hx => by
    rcases k.new x hx with y | y
    · exact h.new x y
    · exact .inr (Nat.le_trans h.kf.size y)⟩
/-- Behind memory that was made ahead of it. -/
theorem GrTo.pre {w0 : World} (hb : Below w0.heap.size w0 w) (h : GrTo w w' c c' gs ins mp) : GrTo w0 w' c c' gs ins mp :=
  ⟨h.at_, h.bg, (Kf.of_below hb).trans h.kf (fun _ hx => .inl hx), fun k hk => by
    rcases h.new k hk with y | y
    · exact .inl y
    · exact .inr (Nat.le_trans hb.size y)⟩
/-- Other blocks stay. -/
theorem GrTo.guest (h : GrTo w w' c c' gs ins mp) {k : Nat} (hk : k < w.heap.size) (hn : ¬ c.own k) : w'.heap[k]? = w.heap[k]? ∧ ¬ c'.own k :=
  ⟨h.kf.block k hk hn, fun e => by
    rcases h.new k e with y | y
    · exact hn y
    · omega⟩
end
theorem glen_any {w : World} {c : GrC} {gs mp : Gs} {ins : List Nat} (h : GrAt w c gs ins mp) : Calls Try.prog 15 #[.pointer (some ⟨c.bg, 0, none⟩)] w fun e w' => e = .returned (.int .i64 (gs.length : Int)) ∧ w = w' := by
  obtain ⟨c0, _⟩ := h.cells
  go_enter Try.func15, Try.ntmps15
  go_wp2_with fail
  go_ret
  exact ⟨rfl, rfl⟩
/-- Are all of them of gates that there are? -/
def hasG (gs : Gs) (l : List Nat) : Bool := l.all fun x => decide (x / 2 < gs.length)
def Sml (l : List Nat) : Prop := ∀ j, l.getD j 0 < 4294967296
theorem Sml.of {l : List Nat} (h : ∀ x ∈ l, x < 4294967296) : Sml l := fun j => by
  by_cases hj : j < l.length
  · rw [nget_lt hj]; exact h _ (List.getElem_mem hj)
  · rw [List.getD, List.getElem?_eq_none (by omega)]; decide
theorem hasG_iff {gs : Gs} {l : List Nat} : hasG gs l = true ↔ AllIn gs l := by
  unfold hasG AllIn; rw [List.all_eq_true]; simp only [decide_eq_true_eq]
theorem hasG_no {gs : Gs} {l : List Nat} {j : Nat} (hj : j < l.length) (h : ¬ l.getD j 0 / 2 < gs.length) : hasG gs l = false := by
  rw [← Bool.not_eq_true, hasG_iff]
  intro ha
  exact h (ha _ (nmem.2 ⟨j, hj, rfl⟩))
set_option maxHeartbeats 1600000 in
theorem ghas_any {w : World} {c : GrC} {gs mp : Gs} {ins : List Nat} (h : GrAt w c gs ins mp) (A : Option Addr) (n cn : Nat) (l : List Nat) (hl : RdN .u32 w w.heap.size A n l) (hs : Sml l) (hn : n ≤ 9223372036854775807) :
    Calls Try.prog 30 #[.pointer (some ⟨c.bg, 0, none⟩), .slice A n cn] w fun e w' => e = .returned (.bool (hasG gs l)) ∧ w = w' := by
  have HG := Lib.hid h
  have HL := Lib.hid hl
  have HS := Lib.hid hs
  clear h hl hs
  go_enter Try.func30, Try.ntmps30
  go_wp2_with fail
  go_loopw [9] (fun i wr => ∃ k : Nat, i = .int .i64 (k : Int) ∧ k ≤ n ∧ Hid (∀ j, j < k → l.getD j 0 / 2 < gs.length) ∧ w = wr) (fun i _ => n - (intOf i).toNat)
  case atStart => exact ⟨0, rfl, Nat.zero_le _, Lib.hid fun j hj => by omega, rfl⟩
  case round =>
    obtain ⟨k, rfl, hk, hall, rfl⟩ := hrel
    by_cases hlt : k < n
    · have tk : decide ((k : Int) < (n : Int)) = true := decide_eq_true (by omega)
      have tk2 : decide (k < n) = true := decide_eq_true hlt
      obtain ⟨b, o, rfl, hb, hc⟩ := HL.out.get hlt
      have hx := HS.out k
      have HGL := Lib.hid (glen_any HG.out)
      have HNO : Hid (¬ l.getD k 0 / 2 < gs.length → hasG gs l = false) := fun e => hasG_no (by rw [HL.out.len]; exact hlt) e
      have HYE : Hid (l.getD k 0 / 2 < gs.length → ∀ j, j < k + 1 → l.getD j 0 / 2 < gs.length) := fun e j hj => by
        by_cases e2 : j = k
        · rw [e2]; exact e
        · exact hall.out j (by omega)
      generalize l.getD k 0 = x at *
      go_wp2_with fail
      refine (gnum_any x _ hx).mono ?_
      rintro e w' ⟨rfl, rfl⟩
      go_wp2_with fail
      refine HGL.out.mono ?_
      rintro e w' ⟨rfl, rfl⟩
      by_cases hge : x / 2 < gs.length
      · have t1 : decide ((gs.length : Int) ≤ ((x / 2 : Nat) : Int)) = false := decide_eq_false (by omega)
        have t2 : decide (gs.length ≤ x / 2) = false := decide_eq_false (by omega)
        have HY := Lib.hid (HYE.out hge)
        clear HYE HNO hc
        go_wp2_with fail
        go_roundw
        case rel => exact ⟨k + 1, by go_num, by omega, HY, trivial⟩
        case measure => simp [intOf]; omega
      · have t1 : decide ((gs.length : Int) ≤ ((x / 2 : Nat) : Int)) = true := decide_eq_true (by omega)
        have t2 : decide (gs.length ≤ x / 2) = true := decide_eq_true (by omega)
        have HY := Lib.hid (HNO.out hge)
        clear HYE HNO hc
        go_wp2_with fail
        go_ret
        exact ⟨gret_bool HY.out.symm, rfl⟩
    · have tk : decide ((k : Int) < (n : Int)) = false := decide_eq_false (by omega)
      have tk2 : decide (k < n) = false := decide_eq_false hlt
      have HY : Hid (hasG gs l = true) := hasG_iff.2 fun x hx => by
        obtain ⟨j, hj, rfl⟩ := nmem.1 hx
        exact hall.out j (by have := HL.out.len; omega)
      go_wp2_with fail
      go_ret
      exact ⟨gret_bool HY.out.symm, rfl⟩
end Go.Proofs.Ytmiifhclcknhdaa
