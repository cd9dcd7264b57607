/- A circuit's contracts: And, Or, Not, If, Same. -/
import Derived.Test.YtmiifhclcknhdaaGrtD
namespace Go.Proofs.Ytmiifhclcknhdaa
open Go.RowKit GatM

/-- A slice that lies apart from the circuit stays. -/
theorem RdN.grt {k : IntKind} {w w' : World} {c c' : GrC} {gs mp : Gs} {ins : List Nat} {A : Option Addr} {n : Nat} {l : List Nat} (h : RdN k w w.heap.size A n l) (hA : ∀ j, onB A j → ¬ c.own j) (hT : GrTo w w' c c' gs ins mp) : RdN k w' w'.heap.size A n l :=
  ⟨h.len, fun hn => by
    obtain ⟨b, o, e, hb, hc⟩ := h.at_ hn
    refine ⟨b, o, e, Nat.lt_of_lt_of_le hb hT.kf.size, fun j hj => ?_⟩
    rw [World.cell?_of_block (a := ⟨b, o + j, none⟩) (hT.guest hb (hA b ⟨_, e, rfl⟩)).1]
    exact hc j hj⟩
theorem ntake_snoc {l : List Nat} {k : Nat} (h : k < l.length) : l.take (k + 1) = l.take k ++ [l.getD k 0] := by
  rw [List.take_succ_eq_append_getElem h, nget_lt h]
theorem and_at {gs : Gs} (h : Wf gs) {l : List Nat} (hl : AllIn gs l) (k : Nat) (hk : k ≤ l.length) : Made gs (andF (1, gs) (l.take k)) k := by
  have := (andF_made (l.take k) gs 1 h h.pos fun x hx => hl x (List.mem_of_mem_take hx)).1
  rw [List.length_take, Nat.min_eq_left hk] at this
  exact this
set_option maxHeartbeats 1600000 in
set_option maxRecDepth 100000 in
theorem gand_any {w : World} {c : GrC} {gs : Gs} {ins : List Nat} (h : GrAt w c gs ins gs) (hw : Wf gs) (A : Option Addr) (n cn : Nat) (l : List Nat) (hl : RdN .u32 w w.heap.size A n l) (hA : ∀ k, onB A k → ¬ c.own k) (hs : Sml l) (hin : AllIn gs l) (hn : gs.length + n ≤ 90000) :
    Calls Try.prog 22 #[.pointer (some ⟨c.bg, 0, none⟩), .slice A n cn] w fun e w' => e = .returned (.tuple #[.int .u32 (((andG gs l).1 : Nat) : Int), .int .i64 0]) ∧ ∃ c', GrTo w w' c c' (andG gs l).2 ins (andG gs l).2 := by
  have HH := Lib.hid (ghas_any h A n cn l hl hs (by omega))
  have hb : hasG gs l = true := hasG_iff.2 hin
  rw [hb] at HH
  have HG := Lib.hid h
  have HW := Lib.hid hw
  have HL := Lib.hid hl
  have HA := Lib.hid hA
  have HI := Lib.hid hin
  clear h hw hl hA hs hin hb
  go_enter Try.func22, Try.ntmps22
  go_wp2_with fail
  refine HH.out.mono ?_
  rintro e w' ⟨rfl, rfl⟩
  go_wp2_with fail
  go_loopw [6, 17] (fun v i wr => ∃ (k e : Nat) (gk : Gs) (ck : GrC), i = .int .i64 (k : Int) ∧ v = .int .u32 (e : Int) ∧ k ≤ n ∧ Hid (andF (1, gs) (l.take k) = (e, gk)) ∧ Hid (GrTo w wr c ck gk ins gk)) (fun _ i _ => n - (intOf i).toNat)
  case atStart => exact ⟨0, 1, gs, c, rfl, rfl, Nat.zero_le _, Lib.hid rfl, Lib.hid (GrTo.refl HG.out)⟩
  case round =>
    obtain ⟨k, e, gk, ck, rfl, rfl, hk, ha, hT⟩ := hrel
    by_cases hlt : k < n
    · have tk : decide ((k : Int) < (n : Int)) = true := decide_eq_true (by omega)
      have tk2 : decide (k < n) = true := decide_eq_true hlt
      have hkl : k < l.length := by have := HL.out.len; omega
      obtain ⟨b, o, rfl, hb, hc⟩ := (HL.out.grt HA.out hT.out).get hlt
      have hm := and_at HW.out HI.out k (Nat.le_of_lt hkl)
      rw [ha.out] at hm
      have hml : gk.length ≤ gs.length + k := hm.len
      have hx : l.getD k 0 / 2 < gs.length := HI.out _ (nmem.2 ⟨k, hkl, rfl⟩)
      have hbo := gboth_any hT.out.at_ hm.wf (by omega) (a := e) (b := l.getD k 0) hm.lt (Nat.lt_of_lt_of_le hx hm.ex.len)
      rw [hT.out.bg] at hbo
      have HBO := Lib.hid hbo
      have HN : Hid (andF (1, gs) (l.take (k + 1)) = bothG gk e (l.getD k 0)) := by
        unfold Hid
        rw [ntake_snoc hkl, andF_snoc, ha.out]
      clear hm hbo ha
      generalize l.getD k 0 = x at *
      go_wp2_with fail
      refine HBO.out.mono ?_
      rintro e w2 ⟨rfl, c2, hT2⟩
      have HT2 := Lib.hid (hT.out.trans hT2)
      clear hT2 HBO hT
      go_wp2_with fail
      go_roundw
      case rel => exact ⟨k + 1, (bothG gk _ x).1, (bothG gk _ x).2, c2, by go_num, rfl, by omega, Lib.hid HN.out, HT2⟩
      case measure => simp [intOf]; omega
    · have tk : decide ((k : Int) < (n : Int)) = false := decide_eq_false (by omega)
      have tk2 : decide (k < n) = false := decide_eq_false hlt
      obtain rfl : k = n := by omega
      have HF : Hid (andG gs l = (e, gk)) := by
        unfold Hid andG
        rw [← ha.out, List.take_of_length_le (by have := HL.out.len; omega)]
      clear ha
      go_wp2_with fail
      go_ret2
      exact ⟨by rw [HF.out]; rfl, ck, by rw [HF.out]; exact hT.out⟩
set_option maxHeartbeats 1600000 in
theorem gand_no {w : World} {c : GrC} {gs mp : Gs} {ins : List Nat} (h : GrAt w c gs ins mp) (A : Option Addr) (n cn : Nat) (l : List Nat) (hl : RdN .u32 w w.heap.size A n l) (hs : Sml l) (hb : hasG gs l = false) (hn : n ≤ 9223372036854775807) :
    Calls Try.prog 22 #[.pointer (some ⟨c.bg, 0, none⟩), .slice A n cn] w fun e w' => e = .returned (.tuple #[.int .u32 0, .int .i64 101]) ∧ w = w' := by
  have HH := Lib.hid (ghas_any h A n cn l hl hs hn)
  rw [hb] at HH
  clear h hl hs hb
  go_enter Try.func22, Try.ntmps22
  go_wp2_with fail
  refine HH.out.mono ?_
  rintro e w' ⟨rfl, rfl⟩
  go_wp2_with fail
  go_ret2
  exact ⟨rfl, rfl⟩
theorem sml_turn {l : List Nat} (h : Sml l) : Sml (l.map turnE) := Sml.of fun x hx => by
  obtain ⟨y, hy, rfl⟩ := List.mem_map.1 hx
  obtain ⟨j, hj, rfl⟩ := nmem.1 hy
  have := h j
  unfold turnE; split <;> omega
theorem AllIn.sml {gs : Gs} {l : List Nat} (h : AllIn gs l) (hn : gs.length ≤ 90000) : Sml l := Sml.of fun x hx => by have := h x hx; omega
/-- Turned as far as k. -/
def turnF (l : List Nat) (k j : Nat) : Value := .int .u32 ((if j < k then turnE (l.getD j 0) else 0 : Nat) : Int)
theorem turnF_end {l : List Nat} {k : Nat} (hk : k = l.length) {j : Nat} (hj : j < k) : numF .u32 (l.map turnE) j = turnF l k j := by
  unfold numF turnF
  rw [if_pos hj, List.getD, List.getElem?_map, List.getElem?_eq_getElem (show j < l.length by omega), nget_lt (show j < l.length by omega)]
  rfl
theorem turnF_step {l : List Nat} {k : Nat} (j : Nat) : turnF l (k + 1) j = updV (turnF l k) k (.int .u32 ((turnE (l.getD k 0) : Nat) : Int)) j := by
  unfold turnF
  by_cases e : j = k
  · subst e; rw [updV_at, if_pos (by omega)]
  · rw [updV_ne _ _ e]
    by_cases e2 : j < k
    · rw [if_pos e2, if_pos (by omega)]
    · rw [if_neg e2, if_neg (by omega)]
/-- What the first part of Or leaves. -/
def OrPre (w : World) (n : Nat) (l : List Nat) (wr : World) : Prop := RowV 25 1 wr w.heap.size n n (turnF l n) ∧ Below w.heap.size w wr
set_option maxHeartbeats 1600000 in
set_option maxRecDepth 100000 in
theorem gor_with {w : World} {c : GrC} (A : Option Addr) (n cn : Nat) (l : List Nat) (hl : RdN .u32 w w.heap.size A n l) (hs : Sml l) (hn : n ≤ 90000) {R : Ending → World → Prop} (x y : Nat)
    (hAnd : ∀ wr, OrPre w n l wr → Calls Try.prog 22 #[.pointer (some ⟨c.bg, 0, none⟩), .slice (some ⟨w.heap.size, 0, none⟩) n n] wr fun e w' => e = .returned (.tuple #[.int .u32 (x : Int), .int .i64 (y : Int)]) ∧ (y = 0 → x < 4294967296) ∧ R (.returned (.tuple #[.int .u32 ((if y = 0 then turnE x else 0 : Nat) : Int), .int .i64 (y : Int)])) w') :
    Calls Try.prog 28 #[.pointer (some ⟨c.bg, 0, none⟩), .slice A n cn] w R := by
  obtain ⟨C, hC1, hC2, hmk0⟩ := make_sl (P := Try.prog) 46 25 Try.underlying46 info_edge rfl (by decide) (by decide) n (by omega)
  have hmk := hmk0 w
  have hb1 : Below w.heap.size w (w.alloc (.cells C 25)) := (Below.refl _ _).alloc (Nat.le_refl _) _
  have hr1 : RowV 25 1 (w.alloc (.cells C 25)) w.heap.size n n (turnF l 0) := RowV.made (by omega) hC1 fun j hj => by rw [hC2 j hj, Nat.mod_one]; unfold turnF; rw [if_neg (by omega)]; rfl
  have HP0 := Lib.hid (And.intro hr1 hb1)
  have HL := Lib.hid hl
  have HS := Lib.hid hs
  have HA := Lib.hid hAnd
  clear hC1 hC2 hmk0 hb1 hr1 hl hs hAnd
  go_enter Try.func28, Try.ntmps28
  go_wp2_with fail
  go_loopw [16] (fun i wr => ∃ k : Nat, i = .int .i64 (k : Int) ∧ k ≤ n ∧ Hid (RowV 25 1 wr w.heap.size n n (turnF l k) ∧ Below w.heap.size w wr)) (fun i _ => n - (intOf i).toNat)
  case atStart => exact ⟨0, rfl, Nat.zero_le _, HP0⟩
  case round =>
    obtain ⟨k, rfl, hk, hP⟩ := hrel
    by_cases hlt : k < n
    · have tk : decide ((k : Int) < (n : Int)) = true := decide_eq_true (by omega)
      have tk2 : decide (k < n) = true := decide_eq_true hlt
      have tk3 : decide ((n : Int) ≤ (k : Int)) = false := decide_eq_false (by omega)
      obtain ⟨b, o, rfl, hb, hc⟩ := (HL.out.below hP.out.2).get hlt
      have hx := HS.out k
      have HT := Lib.hid (gturn_any (l.getD k 0) wr hx)
      have HN : Hid (RowV 25 1 (wr.setCell ⟨w.heap.size, k, none⟩ (.int .u32 ((turnE (l.getD k 0) : Nat) : Int))) w.heap.size n n (turnF l (k + 1)) ∧ Below w.heap.size w (wr.setCell ⟨w.heap.size, k, none⟩ (.int .u32 ((turnE (l.getD k 0) : Nat) : Int)))) :=
        ⟨(hP.out.1.set (show k < n * 1 by omega) _).congr fun j _ => turnF_step j, hP.out.2.setCell (Nat.le_refl _) _⟩
      have d0 : wr.cell? ⟨w.heap.size, k, none⟩ = some (.int .u32 0) := by
        rw [hP.out.1.cell (show k < n * 1 by omega)]; unfold turnF; rw [if_neg (by omega)]; rfl
      have d1 := hP.out.1.free k
      clear hP
      generalize l.getD k 0 = x at *
      go_wp2_with fail
      refine HT.out.mono ?_
      rintro e w' ⟨rfl, rfl⟩
      go_wp2_with fail
      go_roundw
      case rel => exact ⟨k + 1, by go_num, by omega, HN⟩
      case measure => simp [intOf]; omega
    · have tk : decide ((k : Int) < (n : Int)) = false := decide_eq_false (by omega)
      have tk2 : decide (k < n) = false := decide_eq_false hlt
      obtain rfl : k = n := by omega
      have HC := Lib.hid (HA.out wr hP.out)
      clear HA
      go_wp2_with fail
      refine HC.out.mono ?_
      rintro e w2 ⟨rfl, hx, hR⟩
      have HR := Lib.hid hR
      clear hR HC
      by_cases hy : y = 0
      · subst hy
        have hx := hx rfl
        have HT := Lib.hid (gturn_any x w2 hx)
        rw [if_pos rfl] at HR
        go_wp2_with fail
        refine HT.out.mono ?_
        rintro e w' ⟨rfl, rfl⟩
        go_wp2_with fail
        exact HR.out
      · have ty : ((y : Int) != 0) = true := by rw [bne_iff_ne]; omega
        have ty2 : ((y : Int) == 0) = false := by rw [beq_eq_false_iff_ne]; omega
        have ty3 : (y != 0) = true := by rw [bne_iff_ne]; exact hy
        have ty4 : (y == 0) = false := by rw [beq_eq_false_iff_ne]; exact hy
        rw [if_neg hy] at HR
        clear hy hx
        go_wp2_with fail
        exact HR.out
theorem gor_any {w : World} {c : GrC} {gs : Gs} {ins : List Nat} (h : GrAt w c gs ins gs) (hw : Wf gs) (A : Option Addr) (n cn : Nat) (l : List Nat) (hl : RdN .u32 w w.heap.size A n l) (hs : Sml l) (hin : AllIn gs l) (hn : gs.length + n ≤ 90000) :
    Calls Try.prog 28 #[.pointer (some ⟨c.bg, 0, none⟩), .slice A n cn] w fun e w' => e = .returned (.tuple #[.int .u32 (((orG gs l).1 : Nat) : Int), .int .i64 0]) ∧ ∃ c', GrTo w w' c c' (orG gs l).2 ins (orG gs l).2 := by
  have hll := hl.len
  refine gor_with A n cn l hl hs (by omega) (andG gs (l.map turnE)).1 0 fun wr hP => ?_
  have hm := and_made hw hin.turn
  rw [List.length_map] at hm
  have hrow : SlN .u32 25 wr (some ⟨w.heap.size, 0, none⟩) n (l.map turnE) := by
    refine .inr ⟨w.heap.size, rfl, ?_⟩
    rw [List.length_map, hll]
    exact hP.1.congr fun j hj => turnF_end hll.symm (by omega)
  have hrd := hrow.rdn
  rw [List.length_map, hll] at hrd
  refine (gand_any (h.below hP.2) hw (some ⟨w.heap.size, 0, none⟩) n n (l.map turnE) hrd (fun k hk ho => ?_) (sml_turn hs) hin.turn hn).mono ?_
  · rw [onB_some] at hk
    have hk : k = w.heap.size := hk
    have := h.lt ho
    omega
  · rintro e w' ⟨rfl, c', hT⟩
    refine ⟨rfl, fun _ => ?_, rfl, c', GrTo.pre hP.2 hT⟩
    have h1 := hm.lt
    have h2 := hm.len
    omega
theorem gor_no {w : World} {c : GrC} {gs mp : Gs} {ins : List Nat} (h : GrAt w c gs ins mp) (A : Option Addr) (n cn : Nat) (l : List Nat) (hl : RdN .u32 w w.heap.size A n l) (hs : Sml l) (hb : hasG gs l = false) (hn : n ≤ 90000) :
    Calls Try.prog 28 #[.pointer (some ⟨c.bg, 0, none⟩), .slice A n cn] w fun e w' => e = .returned (.tuple #[.int .u32 0, .int .i64 101]) ∧ Below w.heap.size w w' := by
  have hll := hl.len
  refine gor_with A n cn l hl hs (by omega) 0 101 fun wr hP => ?_
  have hrow : SlN .u32 25 wr (some ⟨w.heap.size, 0, none⟩) n (l.map turnE) := by
    refine .inr ⟨w.heap.size, rfl, ?_⟩
    rw [List.length_map, hll]
    exact hP.1.congr fun j hj => turnF_end hll.symm (by omega)
  have hrd := hrow.rdn
  rw [List.length_map, hll] at hrd
  have hb2 : hasG gs (l.map turnE) = false := by
    rw [← hb]
    unfold hasG
    rw [List.all_map]
    congr 1
    funext x
    simp only [Function.comp, turn_div]
  refine (gand_no (h.below hP.2) (some ⟨w.heap.size, 0, none⟩) n n (l.map turnE) hrd (sml_turn hs) hb2 (by omega)).mono ?_
  rintro e w' ⟨rfl, rfl⟩
  exact ⟨rfl, fun e => absurd e (by decide), rfl, hP.2⟩
/-- A list in new memory. -/
theorem rdn_made (k : IntKind) (w : World) (T : TypeId) (l : List Nat) : RdN k (w.alloc (.cells (l.map fun x : Nat => Value.int k (x : Int)).toArray T)) (w.alloc (.cells (l.map fun x : Nat => Value.int k (x : Int)).toArray T)).heap.size (some ⟨w.heap.size, 0, none⟩) l.length l :=
  ⟨rfl, fun _ => ⟨w.heap.size, 0, rfl, by simp, fun j hj => by
    rw [Nat.zero_add, Lib.cell_of_heap (blk_new w _)]
    simp only [List.getElem?_toArray, List.getElem?_map, List.getElem?_eq_getElem hj, nget_lt hj]
    rfl⟩⟩
theorem hasG_bad {gs : Gs} {l : List Nat} {x : Nat} (hx : x ∈ l) (h : ¬ x / 2 < gs.length) : hasG gs l = false := by
  rw [← Bool.not_eq_true, hasG_iff]
  exact fun ha => h (ha x hx)
set_option maxHeartbeats 1600000 in
set_option maxRecDepth 100000 in
theorem gif_no {w : World} {c : GrC} {gs mp : Gs} {ins : List Nat} (h : GrAt w c gs ins mp) (p a b : Nat) (hp : p < 4294967296) (ha : a < 4294967296) (hb : b < 4294967296) (hbad : ¬ (p / 2 < gs.length ∧ a / 2 < gs.length ∧ b / 2 < gs.length)) :
    Calls Try.prog 42 #[.pointer (some ⟨c.bg, 0, none⟩), .int .u32 (p : Int), .int .u32 (a : Int), .int .u32 (b : Int)] w fun e w' => e = .returned (.tuple #[.int .u32 0, .int .i64 101]) ∧ Below w.heap.size w w' := by
  have hb1 : Below w.heap.size w (w.alloc (.cells #[.int .u32 (p : Int), .int .u32 (a : Int), .int .u32 (b : Int)] 25)) := (Below.refl _ _).alloc (Nat.le_refl _) _
  have HB := Lib.hid hb1
  have hh := ghas_any (h.below hb1) (some ⟨w.heap.size, 0, none⟩) 3 3 [p, a, b] (rdn_made .u32 w 25 [p, a, b]) (Sml.of (by simp [hp, ha, hb])) (by omega)
  have e : hasG gs [p, a, b] = false := by
    rw [← Bool.not_eq_true, hasG_iff]
    exact fun hin => hbad ⟨hin p (by simp), hin a (by simp), hin b (by simp)⟩
  rw [e] at hh
  have HH := Lib.hid hh
  clear hh h hb1 e hbad
  go_enter Try.func42, Try.ntmps42
  go_wp2_with fail
  refine HH.out.mono ?_
  rintro e w' ⟨rfl, rfl⟩
  go_wp2_with fail
  go_ret2
  exact ⟨rfl, HB.out⟩
set_option maxHeartbeats 1600000 in
set_option maxRecDepth 100000 in
theorem gif_any {w : World} {c : GrC} {gs : Gs} {ins : List Nat} (h : GrAt w c gs ins gs) (hw : Wf gs) (p a b : Nat) (hp : p / 2 < gs.length) (ha : a / 2 < gs.length) (hb : b / 2 < gs.length) (hn : gs.length ≤ 80000) :
    Calls Try.prog 42 #[.pointer (some ⟨c.bg, 0, none⟩), .int .u32 (p : Int), .int .u32 (a : Int), .int .u32 (b : Int)] w fun e w' => e = .returned (.tuple #[.int .u32 (((ifG gs p a b).1 : Nat) : Int), .int .i64 0]) ∧ ∃ c', GrTo w w' c c' (ifG gs p a b).2 ins (ifG gs p a b).2 := by
  have hb1 : Below w.heap.size w (w.alloc (.cells #[.int .u32 (p : Int), .int .u32 (a : Int), .int .u32 (b : Int)] 25)) := (Below.refl _ _).alloc (Nat.le_refl _) _
  have hh := ghas_any (h.below hb1) (some ⟨w.heap.size, 0, none⟩) 3 3 [p, a, b] (rdn_made .u32 w 25 [p, a, b]) (Sml.of (by simp; omega)) (by omega)
  rw [show hasG gs [p, a, b] = true from hasG_iff.2 fun x hx => by
    simp only [List.mem_cons, List.not_mem_nil, or_false] at hx
    rcases hx with rfl | rfl | rfl <;> assumption] at hh
  have HH := Lib.hid hh
  obtain ⟨m1, m2, m3⟩ := if_parts hw hp ha hb
  have HB1 := Lib.hid (gboth_any (h.below hb1) hw (by omega) hp ha)
  have HIF : Hid (ifG gs p a b = orG (bothG (bothG gs p a).2 (turnE p) b).2 [(bothG gs p a).1, (bothG (bothG gs p a).2 (turnE p) b).1]) := rfl
  have HP := Lib.hid fun W (c1 : GrC) (hT : GrTo w W c c1 (bothG gs p a).2 ins (bothG gs p a).2) => gboth_any hT.at_ m1.wf (by have := m1.len; omega) (a := turnE p) (b := b) (by rw [turn_div]; exact Nat.lt_of_lt_of_le hp m1.ex.len) (Nat.lt_of_lt_of_le hb m1.ex.len)
  have HM2 := Lib.hid m2
  have HM3 := Lib.hid m3
  have HL1 : Hid ((bothG gs p a).2.length ≤ gs.length + 1) := m1.len
  have HL2 : Hid ((bothG (bothG gs p a).2 (turnE p) b).2.length ≤ (bothG gs p a).2.length + 1) := m2.len
  have HT := Lib.hid fun W => gturn_any p W (by omega)
  have HB0 := Lib.hid hb1
  generalize ifG gs p a b = r at *
  generalize bothG (bothG gs p a).2 (turnE p) b = q2 at *
  generalize bothG gs p a = q1 at *
  clear hh h hb1 m1 m2 m3
  go_enter Try.func42, Try.ntmps42
  go_wp2_with fail
  refine HH.out.mono ?_
  rintro e w' ⟨rfl, rfl⟩
  go_wp2_with fail
  refine HB1.out.mono ?_
  rintro e w2 ⟨rfl, c2, hT2⟩
  have hT2 := GrTo.pre HB0.out hT2
  have hbo := HP.out w2 c2 hT2
  rw [hT2.bg] at hbo
  have HBO := Lib.hid hbo
  have HT2 := Lib.hid hT2
  clear hbo hT2 HH HB1 HP
  go_wp2_with fail
  refine (HT.out _).mono ?_
  rintro e w' ⟨rfl, rfl⟩
  go_wp2_with fail
  refine HBO.out.mono ?_
  rintro e w3 ⟨rfl, c3, hT3⟩
  have hT3 := HT2.out.trans hT3
  have hb3 : Below w3.heap.size w3 (w3.alloc (.cells #[.int .u32 ((q1.1 : Nat) : Int), .int .u32 ((q2.1 : Nat) : Int)] 25)) := (Below.refl _ _).alloc (Nat.le_refl _) _
  have hl3 : q2.2.length ≤ 80002 := by have := HL1.out; have := HL2.out; omega
  have hor := gor_any (hT3.at_.below hb3) HM2.out.wf (some ⟨w3.heap.size, 0, none⟩) 2 2 [q1.1, q2.1] (rdn_made .u32 w3 25 [q1.1, q2.1]) (AllIn.sml HM3.out (by omega)) HM3.out (by omega)
  rw [hT3.bg] at hor
  have HOR := Lib.hid hor
  have HFN : Hid (∀ w4 c4, GrTo (w3.alloc (.cells #[.int .u32 ((q1.1 : Nat) : Int), .int .u32 ((q2.1 : Nat) : Int)] 25)) w4 c3 c4 (orG q2.2 [q1.1, q2.1]).2 ins (orG q2.2 [q1.1, q2.1]).2 → GrTo w w4 c c4 r.2 ins r.2) := fun w4 c4 h4 => by
    rw [HIF.out]; exact hT3.trans (GrTo.pre hb3 h4)
  clear hT3 hb3 hor HBO HT2 HM2 HM3 hl3
  go_wp2_with fail
  refine HOR.out.mono ?_
  rintro e w4 ⟨rfl, c4, hT4⟩
  have HT4 := Lib.hid (HFN.out w4 c4 hT4)
  clear hT4 HFN HOR
  go_wp2_with fail
  go_ret2
  exact ⟨by rw [HIF.out]; rfl, c4, HT4.out⟩
set_option maxHeartbeats 1600000 in
theorem gsame_any {w : World} {c : GrC} {gs : Gs} {ins : List Nat} (h : GrAt w c gs ins gs) (hw : Wf gs) (a b : Nat) (ha : a / 2 < gs.length) (hb : b / 2 < gs.length) (hn : gs.length ≤ 80000) :
    Calls Try.prog 29 #[.pointer (some ⟨c.bg, 0, none⟩), .int .u32 (a : Int), .int .u32 (b : Int)] w fun e w' => e = .returned (.tuple #[.int .u32 (((sameG gs a b).1 : Nat) : Int), .int .i64 0]) ∧ ∃ c', GrTo w w' c c' (sameG gs a b).2 ins (sameG gs a b).2 := by
  have HI := Lib.hid (gif_any h hw a b (turnE b) ha hb (by rw [turn_div]; exact hb) hn)
  have HS : Hid (sameG gs a b = ifG gs a b (turnE b)) := rfl
  have HT := Lib.hid (gturn_any b w (by omega))
  generalize sameG gs a b = r at *
  generalize ifG gs a b (turnE b) = q at *
  go_enter Try.func29, Try.ntmps29
  go_wp2_with fail
  refine HT.out.mono ?_
  rintro e w' ⟨rfl, rfl⟩
  go_wp2_with fail
  refine HI.out.mono ?_
  rintro e w2 ⟨rfl, c2, hT⟩
  have HT2 := Lib.hid hT
  clear hT
  go_wp2_with fail
  go_ret2
  exact ⟨by rw [HS.out]; rfl, c2, by rw [HS.out]; exact HT2.out⟩
set_option maxHeartbeats 1600000 in
theorem gsame_no {w : World} {c : GrC} {gs mp : Gs} {ins : List Nat} (h : GrAt w c gs ins mp) (a b : Nat) (ha : a < 4294967296) (hb : b < 4294967296) (hbad : ¬ (a / 2 < gs.length ∧ b / 2 < gs.length)) :
    Calls Try.prog 29 #[.pointer (some ⟨c.bg, 0, none⟩), .int .u32 (a : Int), .int .u32 (b : Int)] w fun e w' => e = .returned (.tuple #[.int .u32 0, .int .i64 101]) ∧ Below w.heap.size w w' := by
  have HI := Lib.hid (gif_no h a b (turnE b) ha hb (by unfold turnE; split <;> omega) (fun e => hbad ⟨e.1, e.2.1⟩))
  have HT := Lib.hid (gturn_any b w hb)
  clear h hbad
  go_enter Try.func29, Try.ntmps29
  go_wp2_with fail
  refine HT.out.mono ?_
  rintro e w' ⟨rfl, rfl⟩
  go_wp2_with fail
  refine HI.out.mono ?_
  rintro e w2 ⟨rfl, hB⟩
  have HB := Lib.hid hB
  clear hB
  go_wp2_with fail
  go_ret2
  exact ⟨rfl, HB.out⟩
end Go.Proofs.Ytmiifhclcknhdaa
