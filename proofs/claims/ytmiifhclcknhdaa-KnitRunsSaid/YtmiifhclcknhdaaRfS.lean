/- The plain Right, True and False of formulas (lariatref02): contracts. (The part of XCnfR for seats without package lit.) -/
import Derived.OwnWalk
import Derived.Lib.SliceRun
import Derived.Test.YtmiifhclcknhdaaWOpn
import Derived.Test.YtmiifhclcknhdaaRone
import Derived.BigQuiet
import Derived.Deep.QuietTactic
namespace Go.Proofs.Ytmiifhclcknhdaa.CnfP
open LitM
/-- Can a formula be? -/
def litB (v l : Int) : Bool := LitM.one l && decide (varZ l ≤ v)
def clauseB (v : Int) (c : List Int) : Bool := c.all (litB v)
def total (cs : List (List Int)) : Nat := (cs.map List.length).sum
def rightF (v : Int) (cs : List (List Int)) : Bool :=
  decide (0 ≤ v) && decide (v ≤ 262144) && decide (cs.length ≤ 1048576) && decide (total cs ≤ 4194304) && cs.all (clauseB v)

theorem total_nil : total [] = 0 := rfl
theorem total_cons (c : List Int) (cs : List (List Int)) : total (c :: cs) = c.length + total cs := by simp [total]
theorem total_append (a b : List (List Int)) : total (a ++ b) = total a + total b := by simp [total]

end Go.Proofs.Ytmiifhclcknhdaa.CnfP
namespace Go.Proofs.Ytmiifhclcknhdaa
open Go.RowKit LitM CnfP

/-- Clauses of numbers of 32 bits, none longer than memory is. -/
def Ok32 (cs : List (List Int)) : Prop := ∀ j, (cs.getD j []).length ≤ 35184372088832 ∧ In32 (cs.getD j [])
theorem Ok32.of {cs : List (List Int)} (h : ∀ c ∈ cs, c.length ≤ 35184372088832 ∧ In32 c) : Ok32 cs := by
  intro j
  by_cases hj : j < cs.length
  · have : cs.getD j [] = cs[j] := by simp [List.getD, List.getElem?_eq_getElem hj]
    rw [this]; exact h _ (List.getElem_mem hj)
  · have : cs.getD j [] = [] := by simp [List.getD, List.getElem?_eq_none (by omega : cs.length ≤ j)]
    rw [this]; exact ⟨by simp, In32.of (by simp)⟩

theorem getF_lt {cs : List (List Int)} {j : Nat} (h : j < cs.length) : cs.getD j [] = cs[j] := by simp [List.getD, List.getElem?_eq_getElem h]
theorem take_snocF {cs : List (List Int)} {k : Nat} (h : k < cs.length) : cs.take (k + 1) = cs.take k ++ [cs.getD k []] := by
  rw [List.take_succ_eq_append_getElem h, getF_lt h]

/-- What is left of the room for literals behind k clauses. -/
def roomZ (cs : List (List Int)) (k : Nat) : Int := 4194304 - (total (cs.take k) : Int)
theorem roomZ_zero (cs : List (List Int)) : roomZ cs 0 = 4194304 := by simp [roomZ, total]
theorem roomZ_succ {cs : List (List Int)} {k : Nat} (h : k < cs.length) : roomZ cs (k + 1) = roomZ cs k - ((cs.getD k []).length : Int) := by
  unfold roomZ; rw [take_snocF h, total_append]; simp [total]; omega
theorem total_take (cs : List (List Int)) (k : Nat) : total (cs.take k) ≤ total cs := by
  have := total_append (cs.take k) (cs.drop k)
  rw [List.take_append_drop] at this
  omega
theorem right_big {v : Int} {cs : List (List Int)} {k : Nat} (h : roomZ cs k < 0) : rightF v cs = false := by
  have := total_take cs k
  unfold roomZ at h
  unfold rightF
  simp only [Bool.and_eq_false_iff, decide_eq_false_iff_not]
  exact .inl (.inr (by omega))
theorem right_bad {v : Int} {cs : List (List Int)} {k : Nat} (hk : k < cs.length) (h : clauseB v (cs.getD k []) = false) : rightF v cs = false := by
  unfold rightF
  simp only [Bool.and_eq_false_iff]
  refine .inr ?_
  rw [← Bool.not_eq_true, List.all_eq_true]
  intro ha
  rw [getF_lt hk] at h
  rw [ha _ (List.getElem_mem hk)] at h
  cases h
theorem right_yes {v : Int} {cs : List (List Int)} (h0 : 0 ≤ v) (h1 : v ≤ 262144) (h2 : cs.length ≤ 1048576) (h3 : ¬ roomZ cs cs.length < 0) (h4 : ∀ j, j < cs.length → clauseB v (cs.getD j []) = true) : rightF v cs = true := by
  unfold roomZ at h3
  rw [List.take_length] at h3
  unfold rightF
  simp only [Bool.and_eq_true, decide_eq_true_eq, List.all_eq_true]
  refine ⟨⟨⟨⟨h0, h1⟩, h2⟩, by omega⟩, fun c hc => ?_⟩
  obtain ⟨i, hi, rfl⟩ := List.getElem_of_mem hc
  have := h4 i hi
  rwa [getF_lt hi] at this
theorem right_out {v : Int} {cs : List (List Int)} (h : v < 0 ∨ 262144 < v ∨ 1048576 < cs.length) : rightF v cs = false := by
  unfold rightF
  simp only [Bool.and_eq_false_iff, decide_eq_false_iff_not]
  omega
end Go.Proofs.Ytmiifhclcknhdaa
namespace Go.Proofs.Ytmiifhclcknhdaa
open Go.RowKit LitM CnfP

theorem clauseB_no {v : Int} {c : List Int} (h : allOne c = false) : clauseB v c = false := by
  rw [← Bool.not_eq_true]
  intro ha
  unfold clauseB at ha
  rw [List.all_eq_true] at ha
  rw [← Bool.not_eq_true] at h
  refine h ?_
  unfold allOne
  rw [List.all_eq_true]
  intro x hx
  have := ha x hx
  unfold litB at this
  rw [Bool.and_eq_true] at this
  exact this.1
theorem clauseB_any {v : Int} {c : List Int} (h : allOne c = true) : (!c.any (fun l => decide (v < varZ l))) = clauseB v c := by
  unfold allOne at h
  unfold clauseB
  rw [List.all_eq_true] at h
  rw [Bool.eq_iff_iff, Bool.not_eq_true', List.any_eq_false, List.all_eq_true]
  constructor
  · intro hh x hx
    have := hh x hx
    unfold litB
    rw [h x hx]
    simp at this ⊢
    omega
  · intro hh x hx
    have := hh x hx
    unfold litB at this
    rw [h x hx] at this
    simp at this ⊢
    omega

end Go.Proofs.Ytmiifhclcknhdaa
namespace Go.Proofs.Ytmiifhclcknhdaa
open Go.RowKit LitM CnfP

/-- The block of a formula that a call has boxed. -/
def boxF (w : World) (v : Int) (A : Option Addr) (n c : Nat) : World := w.alloc (.cells #[.int .i64 v, .slice A n c] 34)
theorem boxF_size (w : World) (v : Int) (A : Option Addr) (n c : Nat) : (boxF w v A n c).heap.size = w.heap.size + 1 := by simp [boxF]
theorem boxF_below (w : World) (v : Int) (A : Option Addr) (n c : Nat) : Below w.heap.size w (boxF w v A n c) := (Below.refl _ _).alloc (Nat.le_refl _) _
theorem boxF_0 {w wr : World} {v : Int} {A : Option Addr} {n c : Nat} (h : Below (boxF w v A n c).heap.size (boxF w v A n c) wr) : wr.cell? ⟨w.heap.size, 0, none⟩ = some (.int .i64 v) := by
  rw [h.cell (p := ⟨w.heap.size, 0, none⟩) (by simp [boxF])]; simp [boxF]
theorem boxF_1 {w wr : World} {v : Int} {A : Option Addr} {n c : Nat} (h : Below (boxF w v A n c).heap.size (boxF w v A n c) wr) : wr.cell? ⟨w.heap.size, 1, none⟩ = some (.slice A n c) := by
  rw [h.cell (p := ⟨w.heap.size, 1, none⟩) (by simp [boxF])]; simp [boxF]

end Go.Proofs.Ytmiifhclcknhdaa
namespace Go.Proofs.Ytmiifhclcknhdaa
open Go.RowKit LitM CnfP

/-- The slice with address A and length n holds the bools bs, in a block below B. -/
structure RdB (w : World) (B : Nat) (A : Option Addr) (n : Nat) (bs : List Bool) : Prop where
  len : bs.length = n
  at_ : 0 < n → ∃ b o, A = some ⟨b, o, none⟩ ∧ b < B ∧ ∀ j, j < n → w.cell? ⟨b, o + j, none⟩ = some (.bool (bs.getD j false))
theorem RdB.nil {w : World} {B : Nat} {A : Option Addr} : RdB w B A 0 [] := ⟨rfl, fun h => absurd h (by omega)⟩
theorem RdB.get {w : World} {B n : Nat} {A : Option Addr} {bs : List Bool} (h : RdB w B A n bs) {j : Nat} (hj : j < n) :
    ∃ b o, A = some ⟨b, o, none⟩ ∧ b < B ∧ w.cell? ⟨b, o + j, none⟩ = some (.bool (bs.getD j false)) := by
  obtain ⟨b, o, e, hb, hc⟩ := h.at_ (by omega)
  exact ⟨b, o, e, hb, hc j hj⟩
theorem RdB.keep {w w' : World} {B n : Nat} {A : Option Addr} {bs : List Bool} (h : RdB w B A n bs) (hk : ∀ p : Addr, p.block < B → w'.cell? p = w.cell? p) : RdB w' B A n bs :=
  ⟨h.len, fun hn => by
    obtain ⟨b, o, e, hb, hc⟩ := h.at_ hn
    exact ⟨b, o, e, hb, fun j hj => (hk ⟨b, o + j, none⟩ hb).trans (hc j hj)⟩⟩
theorem RdB.more {w : World} {B B' n : Nat} {A : Option Addr} {bs : List Bool} (h : RdB w B A n bs) (hB : B ≤ B') : RdB w B' A n bs :=
  ⟨h.len, fun hn => by
    obtain ⟨b, o, e, hb, hc⟩ := h.at_ hn
    exact ⟨b, o, e, by omega, hc⟩⟩
theorem RdB.below {w w' : World} {B n : Nat} {A : Option Addr} {bs : List Bool} (h : RdB w B A n bs) (hb : Below B w w') : RdB w' B A n bs := h.keep fun _ hp => hb.cell hp
theorem RdB.alloc {w : World} {B n : Nat} {A : Option Addr} {bs : List Bool} (h : RdB w B A n bs) (hB : B ≤ w.heap.size) (o : Obj) : RdB (w.alloc o) B A n bs :=
  h.keep fun p hp => World.cell?_alloc_lt w o p (by omega)

/-- Is a literal true? -/
def trueB (bs : List Bool) (l : Int) : Bool := bs.getD (varZ l - 1).toNat false == decide (0 < l)
def clauseH (bs : List Bool) (c : List Int) : Bool := c.any (trueB bs)
/-- Where the first clause is that doesn't hold; -1, if there is none. -/
def falseAt (bs : List Bool) : List (List Int) → Int
  | [] => -1
  | c :: cs => if clauseH bs c then (if falseAt bs cs = -1 then -1 else falseAt bs cs + 1) else 0
theorem falseAt_ge (bs : List Bool) : ∀ cs, -1 ≤ falseAt bs cs
  | [] => by simp [falseAt]
  | c :: cs => by
    have := falseAt_ge bs cs
    unfold falseAt
    split
    · split <;> omega
    · omega
theorem falseAt_le (bs : List Bool) : ∀ cs, falseAt bs cs ≤ cs.length
  | [] => by simp [falseAt]
  | c :: cs => by
    have := falseAt_le bs cs
    unfold falseAt
    split
    · split
      · simp; omega
      · simp; omega
    · simp; omega
theorem falseAt_at (bs : List Bool) : ∀ (cs : List (List Int)) (k : Nat), k < cs.length → clauseH bs (cs.getD k []) = false → (∀ j, j < k → clauseH bs (cs.getD j []) = true) → falseAt bs cs = k
  | [], k, h, _, _ => absurd h (by simp)
  | c :: cs, 0, _, h, _ => by
    have : clauseH bs c = false := by simpa using h
    simp [falseAt, this]
  | c :: cs, k + 1, hk, h, hall => by
    have h0 : clauseH bs c = true := by simpa using hall 0 (by omega)
    have ih := falseAt_at bs cs k (by simpa using hk) (by simpa using h) (fun j hj => by simpa using hall (j + 1) (by omega))
    unfold falseAt
    rw [h0, ih]
    simp
theorem falseAt_no (bs : List Bool) : ∀ (cs : List (List Int)), (∀ j, j < cs.length → clauseH bs (cs.getD j []) = true) → falseAt bs cs = -1
  | [], _ => rfl
  | c :: cs, hall => by
    have h0 : clauseH bs c = true := by simpa using hall 0 (by simp)
    have ih := falseAt_no bs cs (fun j hj => by simpa using hall (j + 1) (by simpa using hj))
    unfold falseAt
    rw [h0, ih]
    simp
theorem rightF_clause {v : Int} {cs : List (List Int)} (h : rightF v cs = true) {j : Nat} (hj : j < cs.length) : ∀ l ∈ cs.getD j [], 1 ≤ varZ l ∧ varZ l ≤ v := by
  unfold rightF at h
  simp only [Bool.and_eq_true, List.all_eq_true] at h
  rw [getF_lt hj]
  have := h.2 _ (List.getElem_mem hj)
  intro l hl
  unfold clauseB at this
  rw [List.all_eq_true] at this
  have := this l hl
  unfold litB at this
  rw [Bool.and_eq_true, decide_eq_true_eq] at this
  have h0 := (varZ_zero l)
  have h1 := (varZ_bd l)
  have h2 : varZ l ≠ 0 := fun e => by rw [h0.1 e] at this; cases this.1
  omega
theorem rightF_v {v : Int} {cs : List (List Int)} (h : rightF v cs = true) : 0 ≤ v ∧ v ≤ 262144 ∧ total cs ≤ 4194304 := by
  unfold rightF at h
  simp only [Bool.and_eq_true, decide_eq_true_eq] at h
  omega
end Go.Proofs.Ytmiifhclcknhdaa
namespace Go.Proofs.Ytmiifhclcknhdaa
open Go.RowKit LitM CnfP

theorem rone_q (l : Int) (w : World) : Calls Try.prog 51 #[.int .i32 l] w fun e w' => e = .returned (.bool (LitM.one l)) ∧ w' = w :=
  (rone_any l w).mono fun _ _ ⟨he, hw⟩ => ⟨he, hw.symm⟩
theorem rvar_q (l : Int) (w : World) (h0 : -2147483648 ≤ l) (h1 : l ≤ 2147483647) : Calls Try.prog 52 #[.int .i32 l] w fun e w' => e = .returned (.int .i64 (varZ l)) ∧ w' = w :=
  (rvar_any l w h0 h1).mono fun _ _ ⟨he, hw⟩ => ⟨he, hw.symm⟩
theorem litB_bad {v : Int} {c : List Int} {j : Nat} (hj : j < c.length) (h : litB v (c.getD j 0) = false) : clauseB v c = false := by
  rw [← Bool.not_eq_true]
  intro ha
  unfold clauseB at ha
  rw [List.all_eq_true] at ha
  rw [getD_lt hj] at h
  rw [ha _ (List.getElem_mem hj)] at h
  cases h
theorem litB_all {v : Int} {c : List Int} (h : ∀ j, j < c.length → litB v (c.getD j 0) = true) : clauseB v c = true := by
  unfold clauseB
  rw [List.all_eq_true]
  intro x hx
  obtain ⟨i, hi, rfl⟩ := List.getElem_of_mem hx
  have := h i hi
  rwa [getD_lt hi] at this
theorem total_succ {cs : List (List Int)} {k : Nat} (h : k < cs.length) : total (cs.take (k + 1)) = total (cs.take k) + (cs.getD k []).length := by
  rw [take_snocF h, total_append]; simp [total]

/-- The outer loop's relation, the inner one's. -/
def PR1 (w : World) (v : Int) (A : Option Addr) (n c : Nat) (cs : List (List Int)) (a i : Value) (wr : World) : Prop :=
  ∃ k q : Nat, i = .int .i64 (k : Int) ∧ a = .int .i64 (total (cs.take k) : Nat) ∧ k ≤ n ∧ (∀ j, j < k → clauseB v (cs.getD j []) = true) ∧ wr = (boxF w v A n c).drewN q
def PR2 (w : World) (v : Int) (A : Option Addr) (n c : Nat) (xs : List Int) (m : Nat) (i : Value) (wr : World) : Prop :=
  ∃ k q : Nat, i = .int .i64 (k : Int) ∧ k ≤ m ∧ (∀ j, j < k → litB v (xs.getD j 0) = true) ∧ wr = (boxF w v A n c).drewN q

set_option maxHeartbeats 6400000 in
set_option maxRecDepth 100000 in
theorem rrightF_any (v : Int) (A : Option Addr) (n c : Nat) (cs : List (List Int)) (w : World) (h : RdF w w.heap.size A n cs) (hr : Ok32 cs) (hn : n ≤ 100000) (ht : total cs ≤ 100000) :
    Calls Try.prog 34 #[.agg #[.int .i64 v, .slice A n c]] w fun e w' => e = .returned (.bool (rightF v cs)) ∧ Below w.heap.size w w' := by
  have HL := Lib.hid h.len
  have hb0 := boxF_below w v A n c
  have HB0 := Lib.hid hb0
  by_cases h1 : v < 0
  · have EV := Lib.hid (right_out (v := v) (cs := cs) (.inl h1))
    clear h hb0
    go_enter Try.func34, Try.ntmps34
    go_wp2
    go_ret
    exact ⟨ret_bool (by rw [EV.out]), HB0.out⟩
  by_cases h2 : 262144 < v
  · have EV := Lib.hid (right_out (v := v) (cs := cs) (.inr (.inl h2)))
    clear h hb0
    go_enter Try.func34, Try.ntmps34
    go_wp2
    go_ret
    exact ⟨ret_bool (by rw [EV.out]), HB0.out⟩
  have HR := Lib.hid (h.below hb0)
  have t1 : decide (1048576 < n) = false := decide_eq_false (by omega)
  have t2 : decide ((1048576 : Int) < (n : Int)) = false := decide_eq_false (by omega)
  have HS : Hid (PR1 w v A n c cs (.int .i64 0) (.int .i64 0) (boxF w v A n c)) := ⟨0, 0, rfl, by simp [total], Nat.zero_le _, fun j hj => by omega, rfl⟩
  have HC : Hid (∀ q, ((boxF w v A n c).drewN q).cell? ⟨w.heap.size, 0, none⟩ = some (.int .i64 v) ∧ ((boxF w v A n c).drewN q).cell? ⟨w.heap.size, 1, none⟩ = some (.slice A n c)) := fun q => ⟨by show (boxF w v A n c).cell? _ = _; simp [boxF], by show (boxF w v A n c).cell? _ = _; simp [boxF]⟩
  clear h hb0
  go_enter Try.func34, Try.ntmps34
  go_wp2_with fail
  go_loopw [3, 25] (fun a i wr => PR1 w v A n c cs a i wr) (fun _ i _ => n - (intOf i).toNat)
  case atStart => exact HS.out
  case round =>
    clear HS
    obtain ⟨k, q, rfl, rfl, hk, hall, rfl⟩ := hrel
    have HALL := Lib.hid hall
    clear hall
    by_cases hlt : k < n
    · have hRw : RdF ((boxF w v A n c).drewN q) w.heap.size A n cs := HR.out.keep fun _ _ => rfl
      obtain ⟨b, o, Aj, nj, cj, rfl, hb, hc, hRj⟩ := hRw.get hlt
      have hkl : k < cs.length := by rw [HL.out]; exact hlt
      have hlen := hRj.len
      have htk := total_take cs (k + 1)
      rw [total_succ hkl, hlen] at htk
      have HT := Lib.hid (total_succ hkl)
      have HLJ := Lib.hid hlen
      have HRJ := Lib.hid hRj
      have htk0 : total (cs.take k) ≤ 100000 := by omega
      have hnj : nj ≤ 100000 := by omega
      have HS2 : Hid (PR2 w v (some ⟨b, o, none⟩) n c (cs.getD k []) nj (.int .i64 0) ((boxF w v (some ⟨b, o, none⟩) n c).drewN q)) := ⟨0, q, rfl, Nat.zero_le _, fun j hj => by omega, rfl⟩
      have HOK := Lib.hid (hr k).2
      clear hRw hRj hlen htk hr
      generalize hxs : cs.getD k [] = xs at *
      have HXS := Lib.hid hxs
      clear hxs
      generalize hT0 : total (cs.take k) = T0 at *
      have HT0 := Lib.hid hT0
      clear hT0
      generalize hW : (boxF w v (some ⟨b, o, none⟩) n c).drewN q = Wq at hc HS2 HRJ ⊢
      have HW := Lib.hid hW
      clear hW
      go_wp2_with fail
      obtain ⟨wo, rfl⟩ : ∃ wo : World, wo = Wq := ⟨_, rfl⟩
      go_loopw [35] (fun i wr => PR2 w v (some ⟨b, o, none⟩) n c xs nj i wr) (fun i _ => nj - (intOf i).toNat)
      case atStart => exact HS2.out
      case round =>
        clear HS2 hc
        obtain ⟨i, q2, rfl, hi, hal2, hwr⟩ := hrel
        have HAL2 := Lib.hid hal2
        clear hal2
        by_cases hlt2 : i < nj
        · obtain ⟨b2, o2, rfl, hb2, hc2⟩ := HRJ.out.get hlt2
          have hc3 : wr.cell? ⟨b2, o2 + i, none⟩ = some (.int .i32 (xs.getD i 0)) := by
            rw [← HW.out] at hc2; rw [hwr]; exact hc2
          obtain ⟨hx0, hx1⟩ := HOK.out i
          obtain ⟨f0, f1⟩ := HC.out q2
          rw [← hwr] at f0
          have HWR := Lib.hid hwr
          have HB1 : Hid (∀ d, Below w.heap.size w (wr.drewN d)) := fun d => by rw [HWR.out]; exact below_drewN (below_drewN HB0.out _) _
          have HLB : Hid (litB v (xs.getD i 0) = (LitM.one (xs.getD i 0) && decide (varZ (xs.getD i 0) ≤ v))) := rfl
          have hvb := varZ_bd (xs.getD i 0)
          obtain ⟨hvb0, hvb1⟩ := hvb
          have HO1 := Lib.hid (fun W => rone_q (xs.getD i 0) W)
          have HV1 := Lib.hid (fun W => rvar_q (xs.getD i 0) W hx0 hx1)
          have HBD := Lib.hid (fun h => litB_bad (v := v) (c := xs) (j := i) (by rw [HLJ.out]; exact hlt2) h)
          have HRB := Lib.hid (fun h => right_bad (v := v) (cs := cs) (k := k) hkl (by rw [HXS.out]; exact h))
          clear hc2 f1 hwr
          generalize hW0 : boxF w v (some ⟨b, o, none⟩) n c = W0 at *
          have HW0 := Lib.hid hW0
          clear hW0
          generalize hx : xs.getD i 0 = x at *
          have HX := Lib.hid hx
          clear hx
          generalize LitM.one x = b1 at *
          generalize varZ x = z at *
          rcases b1
          · have HE : Hid (rightF v cs = false) := HRB.out (HBD.out (by rw [HLB.out]; rfl))
            clear HRB HBD
            go_wp2_with fail
            go_quiet ((first | (go_at_call 51; exact Calls.quiet_of_same (HO1.out _)) | (go_at_call 52; exact Calls.quiet_of_same (HV1.out _))))
            go_wp2_with fail
            go_ret
            exact ⟨ret_bool (by rw [HE.out]), HB1.out _⟩
          · by_cases hzv : v < z
            · have HE : Hid (rightF v cs = false) := HRB.out (HBD.out (by rw [HLB.out]; simp; omega))
              have tz : decide (v < z) = true := decide_eq_true hzv
              clear HRB HBD
              go_wp2_with fail
              go_quiet ((first | (go_at_call 51; exact Calls.quiet_of_same (HO1.out _)) | (go_at_call 52; exact Calls.quiet_of_same (HV1.out _))))
              go_wp2_with fail
              go_ret
              exact ⟨ret_bool (by rw [HE.out]), HB1.out _⟩
            · have tz : decide (v < z) = false := decide_eq_false hzv
              have HR2 : Hid (∀ d, PR2 w v (some ⟨b, o, none⟩) n c xs nj (.int .i64 ((i : Int) + 1)) (wr.drewN d)) := fun d =>
                ⟨i + 1, q2 + d, by rw [show ((i + 1 : Nat) : Int) = (i : Int) + 1 from by omega], hlt2, fun j hj => by
                  by_cases e : j = i
                  · rw [e, HX.out, HLB.out]; simp; omega
                  · exact HAL2.out j (by omega), by rw [HWR.out, HW0.out]; exact World.drewN_drewN _ _ _⟩
              clear HRB HBD
              go_wp2_with fail
              go_quiet ((first | (go_at_call 51; exact Calls.quiet_of_same (HO1.out _)) | (go_at_call 52; exact Calls.quiet_of_same (HV1.out _))))
              go_wp2_with fail
              go_roundw
              case rel => exact HR2.out _
              case measure => simp [intOf]; omega
        · have ti : decide (i < nj) = false := decide_eq_false hlt2
          have HE : Hid (PR1 w v (some ⟨b, o, none⟩) n c cs (.int .i64 ((T0 : Int) + (nj : Int))) (.int .i64 ((k : Int) + 1)) wr) :=
            ⟨k + 1, q2, by rw [show ((k + 1 : Nat) : Int) = (k : Int) + 1 from by omega], by rw [HT.out, HLJ.out]; push_cast; rfl, hlt, fun j hj => by
              by_cases e : j = k
              · rw [e, HXS.out]; exact litB_all fun x hx => HAL2.out x (by rw [HLJ.out] at hx; omega)
              · exact HALL.out j (by omega), hwr⟩
          clear HT HAL2 hwr
          go_wp2_with fail
          go_roundw
          case rel => exact HE.out
          case measure => simp [intOf]; omega
    · have tk : decide (k < n) = false := decide_eq_false hlt
      have hkn : k = n := by omega
      subst hkn
      have htt := total_take cs k
      have HE : Hid (rightF v cs = true) := right_yes (by omega) (by omega) (by rw [HL.out]; omega) (by unfold roomZ; rw [List.take_length]; omega) fun j hj => HALL.out j (by rw [HL.out] at hj; exact hj)
      have tt : decide (total (cs.take k) ≤ 4194304) = true := decide_eq_true (by omega)
      have tt2 : decide ((total (cs.take k) : Int) ≤ 4194304) = true := decide_eq_true (by omega)
      generalize total (cs.take k) = T0 at *
      go_wp2_with fail
      go_ret
      exact ⟨ret_bool (by rw [HE.out]), below_drewN HB0.out _⟩
end Go.Proofs.Ytmiifhclcknhdaa
namespace Go.Proofs.Ytmiifhclcknhdaa
open Go.RowKit LitM CnfP

def falseV (v : Int) (cs : List (List Int)) (bs : List Bool) : Int := if (bs.length : Int) = v ∧ rightF v cs = true then falseAt bs cs else 0
def falseE (v : Int) (cs : List (List Int)) (bs : List Bool) : Int := if (bs.length : Int) = v ∧ rightF v cs = true then 0 else 21
set_option maxHeartbeats 1600000 in
set_option maxRecDepth 100000 in
theorem rtrue_any (l : Int) (A : Option Addr) (n c : Nat) (bs : List Bool) (w : World) (B : Nat) (hb : RdB w B A n bs) (_ : n ≤ 300000) (h1 : 1 ≤ varZ l) (h2 : varZ l ≤ n) :
    Calls Try.prog 35 #[.int .i32 l, .slice A n c] w fun e w' => e = .returned (.bool (trueB bs l)) ∧ w = w' := by
  have hone : LitM.one l = true := by
    rcases h : LitM.one l
    · have := varZ_out h; omega
    · rfl
  have hbd := (one_iff l).1 hone
  clear hone
  by_cases hl : l < 0
  · have hv := varZ_neg (l := l) (by omega) (by omega)
    rw [hv] at h1 h2
    obtain ⟨m, rfl⟩ : ∃ m : Nat, l = -(m : Int) - 1 := ⟨(-l - 1).toNat, by omega⟩
    obtain ⟨b, o, rfl, hbB, hc⟩ := hb.get (show m < n by omega)
    have EV : Hid (trueB bs (-(m : Int) - 1) = !(bs.getD m false)) := by
      unfold Hid trueB
      rw [hv, show (-(-(m : Int) - 1) - 1).toNat = m from by omega, show decide (0 < -(m : Int) - 1) = false from decide_eq_false (by omega)]
      cases bs.getD m false <;> rfl
    generalize bs.getD m false = x at *
    have e1 : -(-(m : Int) - 1) - 1 = (m : Int) := by omega
    have hm : m ≤ 262143 := by omega
    have hmn : m < n := by omega
    clear hv hb hbd h1 h2
    go_enter Try.func35, Try.ntmps35
    go_wp2
    all_goals (go_ret; exact ⟨ret_bool (by rw [EV.out]), rfl⟩)
  · have hv := varZ_pos (l := l) (by omega) (by omega)
    rw [hv] at h1 h2
    obtain ⟨m, rfl⟩ : ∃ m : Nat, l = (m : Int) + 1 := ⟨(l - 1).toNat, by omega⟩
    obtain ⟨b, o, rfl, hbB, hc⟩ := hb.get (show m < n by omega)
    have EV : Hid (trueB bs ((m : Int) + 1) = bs.getD m false) := by
      unfold Hid trueB
      rw [hv, show ((m : Int) + 1 - 1).toNat = m from by omega, show decide (0 < (m : Int) + 1) = true from decide_eq_true (by omega)]
      cases bs.getD m false <;> rfl
    generalize bs.getD m false = x at *
    have hm : m ≤ 262143 := by omega
    have hmn : m < n := by omega
    clear hv hb hbd h1 h2 hl
    go_enter Try.func35, Try.ntmps35
    go_wp2
    all_goals (go_ret; exact ⟨ret_bool (by rw [EV.out]), rfl⟩)

theorem any_snoc {bs : List Bool} {xs : List Int} {k : Nat} (hk : k < xs.length) : clauseH bs (xs.take (k + 1)) = (clauseH bs (xs.take k) || trueB bs (xs.getD k 0)) := by
  unfold clauseH
  rw [List.take_succ_eq_append_getElem hk, List.any_append, getD_lt hk]
  simp

/-- The outer loop's relation, the inner one's. -/
def PF1 (n : Nat) (cs : List (List Int)) (bs : List Bool) (w1 : World) (i : Value) (wr : World) : Prop :=
  ∃ k : Nat, i = .int .i64 (k : Int) ∧ k ≤ n ∧ (∀ j, j < k → clauseH bs (cs.getD j []) = true) ∧ wr = w1
def PF2 (m : Nat) (xs : List Int) (bs : List Bool) (w1 : World) (h i : Value) (wr : World) : Prop :=
  ∃ k : Nat, i = .int .i64 (k : Int) ∧ k ≤ m ∧ h = .bool (clauseH bs (xs.take k)) ∧ wr = w1

set_option maxHeartbeats 6400000 in
set_option maxRecDepth 100000 in
theorem rfalse_any (v : Int) (A : Option Addr) (n c : Nat) (cs : List (List Int)) (Ab : Option Addr) (nb cb : Nat) (bs : List Bool) (w : World) (h : RdF w w.heap.size A n cs) (hr : Ok32 cs) (hn : n ≤ 100000) (ht : total cs ≤ 100000) (hb : RdB w w.heap.size Ab nb bs) (hnb : nb ≤ 300000) :
    Calls Try.prog 19 #[.agg #[.int .i64 v, .slice A n c], .slice Ab nb cb] w fun e w' => e = .returned (.tuple #[.int .i64 (falseV v cs bs), .int .i64 (falseE v cs bs)]) ∧ Below w.heap.size w w' := by
  have hL := h.len
  have hLb := hb.len
  have hb0 := boxF_below w v A n c
  have HB0 := Lib.hid hb0
  have HRI := Lib.hid (rrightF_any v A n c cs (boxF w v A n c) ((h.below hb0).more (by rw [boxF_size]; omega)) hr hn ht)
  unfold boxF at HRI
  have HV : Hid (∀ W, Below (boxF w v A n c).heap.size (boxF w v A n c) W → W.cell? ⟨w.heap.size, 0, none⟩ = some (.int .i64 v) ∧ W.cell? ⟨w.heap.size, 1, none⟩ = some (.slice A n c)) := fun W hW => ⟨boxF_0 hW, boxF_1 hW⟩
  have HF := Lib.hid (fun W (hW : Below w.heap.size w W) => h.below hW)
  have HFB := Lib.hid (fun W (hW : Below w.heap.size w W) => hb.below hW)
  have HL := Lib.hid hL
  rcases hrt : rightF v cs
  · have E1 : Hid (falseV v cs bs = 0) := by unfold Hid falseV; rw [if_neg]; rw [hrt]; exact fun e => nomatch e.2
    have E2 : Hid (falseE v cs bs = 21) := by unfold Hid falseE; rw [if_neg]; rw [hrt]; exact fun e => nomatch e.2
    rw [hrt] at HRI
    clear hrt hL hLb h hb hb0
    go_enter Try.func19, Try.ntmps19
    go_wp2_with fail
    refine HRI.out.mono ?_
    rintro e w1 ⟨rfl, hB1⟩
    have HB1 := Lib.hid (HB0.out.trans (hB1.mono HB0.out.size))
    clear hB1
    go_wp2_with fail
    go_ret2
    exact ⟨by rw [E1.out, E2.out]; rfl, HB1.out⟩
  by_cases hne : (nb : Int) = v
  case neg =>
    have E1 : Hid (falseV v cs bs = 0) := by unfold Hid falseV; rw [if_neg]; rw [hLb]; exact fun e => hne e.1
    have E2 : Hid (falseE v cs bs = 21) := by unfold Hid falseE; rw [if_neg]; rw [hLb]; exact fun e => hne e.1
    have hvb : ((nb : Int) != v) = true := by rw [bne_iff_ne]; exact hne
    rw [hrt] at HRI
    clear hrt hL hLb h hb hb0 hne
    go_enter Try.func19, Try.ntmps19
    go_wp2_with fail
    refine HRI.out.mono ?_
    rintro e w1 ⟨rfl, hB1⟩
    have hB1' : Below (boxF w v A n c).heap.size (boxF w v A n c) w1 := hB1
    obtain ⟨f0, f1⟩ := HV.out w1 hB1'
    have HB1 := Lib.hid (HB0.out.trans (hB1'.mono HB0.out.size))
    clear hB1 hB1'
    go_wp2_with fail
    go_ret2
    exact ⟨by rw [E1.out, E2.out]; rfl, HB1.out⟩
  subst hne
  have hvb : ((nb : Int) != (nb : Int)) = false := by simp
  have hvb2 : (nb != nb) = false := by simp
  have E1 : Hid (falseV nb cs bs = falseAt bs cs) := by unfold Hid falseV; rw [if_pos]; exact ⟨by rw [hLb], hrt⟩
  have E2 : Hid (falseE nb cs bs = 0) := by unfold Hid falseE; rw [if_pos]; exact ⟨by rw [hLb], hrt⟩
  have HVL := Lib.hid (fun j hj => rightF_clause hrt (j := j) hj)
  have HOK := Lib.hid hr
  rw [hrt] at HRI
  clear hrt hL hLb h hb hb0 hr
  go_enter Try.func19, Try.ntmps19
  go_wp2_with fail
  refine HRI.out.mono ?_
  rintro e w1 ⟨rfl, hB1⟩
  have hB1' : Below (boxF w nb A n c).heap.size (boxF w nb A n c) w1 := hB1
  obtain ⟨f0, f1⟩ := HV.out w1 hB1'
  have HB1 := Lib.hid (HB0.out.trans (hB1'.mono HB0.out.size))
  have HS : Hid (PF1 n cs bs w1 (.int .i64 0) w1) := ⟨0, rfl, Nat.zero_le _, fun j hj => by omega, rfl⟩
  clear hB1 hB1' HRI HV
  go_wp2_with fail
  go_loopw [24] (fun i wr => PF1 n cs bs w1 i wr) (fun i _ => n - (intOf i).toNat)
  case atStart => exact HS.out
  case round =>
    clear HS
    obtain ⟨k, rfl, hk, hall, rfl⟩ := hrel
    have HALL := Lib.hid hall
    clear hall
    by_cases hlt : k < n
    · obtain ⟨b, o, Aj, nj, cj, rfl, hbb, hc, hRj⟩ := (HF.out _ HB1.out).get hlt
      have hkl : k < cs.length := by rw [HL.out]; exact hlt
      have HVJ := Lib.hid (HVL.out k hkl)
      have HRJ := Lib.hid hRj
      have HLJ := Lib.hid hRj.len
      have HO := Lib.hid (HOK.out k)
      have hnj : nj ≤ 35184372088832 := by have := HLJ.out; have := HO.out.1; omega
      have HFA := Lib.hid (fun h => falseAt_at bs cs k hkl h HALL.out)
      have HNX : Hid (clauseH bs (cs.getD k []) = true → PF1 n cs bs wr (.int .i64 ((k : Int) + 1)) wr) := fun h => ⟨k + 1, by rw [show ((k + 1 : Nat) : Int) = (k : Int) + 1 from by omega], hlt, fun j hj => by
        by_cases e : j = k
        · rw [e]; exact h
        · exact HALL.out j (by omega), rfl⟩
      clear hRj hkl
      generalize cs.getD k [] = xs at *
      have HS2 : Hid (PF2 nj xs bs wr (.bool false) (.int .i64 0) wr) := ⟨0, rfl, Nat.zero_le _, by simp [clauseH], rfl⟩
      go_wp2_with fail
      obtain ⟨wo, rfl⟩ : ∃ wo : World, wo = wr := ⟨_, rfl⟩
      go_loopw [8, 31] (fun h i wr => PF2 nj xs bs wo h i wr) (fun _ i _ => nj - (intOf i).toNat)
      case atStart => exact HS2.out
      case round =>
        clear HS2
        obtain ⟨i, rfl, hi, rfl, rfl⟩ := hrel
        by_cases hlt2 : i < nj
        · obtain ⟨b2, o2, rfl, hb2, hc2⟩ := HRJ.out.get hlt2
          have hil : i < xs.length := by rw [HLJ.out]; exact hlt2
          have hx := HVJ.out (xs.getD i 0) (mem_getD.2 ⟨i, hil, rfl⟩)
          have HTR := Lib.hid (rtrue_any (xs.getD i 0) Ab nb cb bs wr _ (HFB.out _ HB1.out) hnb hx.1 hx.2)
          have HSN := Lib.hid (any_snoc (bs := bs) hil)
          clear hx hil
          generalize xs.getD i 0 = x at *
          generalize trueB bs x = y at *
          generalize hcl : clauseH bs (xs.take i) = z at *
          clear hcl
          have HS' : Hid (PF2 nj xs bs wr (.bool (z || y)) (.int .i64 ((i : Int) + 1)) wr) := ⟨i + 1, by rw [show ((i + 1 : Nat) : Int) = (i : Int) + 1 from by omega], hlt2, by rw [HSN.out], rfl⟩
          rcases z
          · rw [Bool.false_or] at HS'
            go_wp2_with fail
            refine HTR.out.mono ?_
            rintro e w' ⟨rfl, rfl⟩
            go_wp2_with fail
            go_roundw
            case rel => exact HS'.out
            case measure => simp [intOf]; omega
          · rw [Bool.true_or] at HS'
            go_wp2_with fail
            go_roundw
            case rel => exact HS'.out
            case measure => simp [intOf]; omega
        · have ti : decide (i < nj) = false := decide_eq_false hlt2
          have hin : i = nj := by omega
          have hfull : xs.take i = xs := by rw [hin, ← HLJ.out]; exact List.take_length
          rw [hfull]
          clear hin hfull hi hlt2
          rcases hz : clauseH bs xs
          · have HE := Lib.hid (HFA.out hz)
            clear hz HNX HFA
            go_wp2_with fail
            go_ret2
            exact ⟨by rw [E1.out, E2.out, HE.out]; rfl, HB1.out⟩
          · have HE := Lib.hid (HNX.out hz)
            clear hz HNX HFA
            go_wp2_with fail
            go_roundw
            case rel => exact HE.out
            case measure => simp [intOf]; omega
    · have tk : decide (k < n) = false := decide_eq_false hlt
      have HE : Hid (falseAt bs cs = -1) := falseAt_no bs cs fun j hj => HALL.out j (by rw [HL.out] at hj; omega)
      go_wp2_with fail
      go_ret2
      exact ⟨by rw [E1.out, E2.out, HE.out]; rfl, HB1.out⟩
end Go.Proofs.Ytmiifhclcknhdaa
