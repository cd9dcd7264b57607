/- The plain answer's trail: its entries in memory; the contracts of Find and Value. -/
import Derived.Test.YtcgihbffdejnbaaTLiveG
import Derived.Test.YtcgihbffdejnbaaRone
namespace Go.Proofs.Ytcgihbffdejnbaa
open Go.RowKit LitM TrailM

theorem info_fent : (Try.prog.info? 46).map (fun i => (i.zero, i.size, i.bytes)) = some (some (.agg #[.int .i32 0, .int .i64 0, .int .i64 0]), 3, 24) := by kernel_rfl
/-- The entries as cells. -/
def enC (L : List Ent) (j : Nat) : Value :=
  match L[j / 3]? with
  | some x => if j % 3 = 0 then .int .i32 x.l else if j % 3 = 1 then .int .i64 x.lv else .int .i64 x.rs
  | none => .int .i64 0
theorem enC_at (L : List Ent) {k : Nat} (h : k < L.length) : enC L (k * 3) = .int .i32 L[k].l ∧ enC L (k * 3 + 1) = .int .i64 L[k].lv ∧ enC L (k * 3 + 2) = .int .i64 L[k].rs := by
  unfold enC
  rw [show k * 3 / 3 = k from by omega, show (k * 3 + 1) / 3 = k from by omega, show (k * 3 + 2) / 3 = k from by omega, List.getElem?_eq_getElem h]
  refine ⟨?_, ?_, ?_⟩
  · show (if k * 3 % 3 = 0 then _ else _) = _; rw [if_pos (by omega)]
  · show (if (k * 3 + 1) % 3 = 0 then _ else _) = _; rw [if_neg (by omega), if_pos (by omega)]
  · show (if (k * 3 + 2) % 3 = 0 then _ else _) = _; rw [if_neg (by omega), if_neg (by omega)]
/-- The list of a plain trail. -/
abbrev EnAt (w : World) (A : Option Addr) (c : Nat) (L : List Ent) : Prop := SlV 46 3 w A L.length c (enC L)
theorem EnAt.at_ {w : World} {A : Option Addr} {c : Nat} {L : List Ent} (h : EnAt w A c L) {k : Nat} (hk : k < L.length) :
    ∃ g, A = some ⟨g, 0, none⟩ ∧ g < w.heap.size ∧ w.cell? ⟨g, k * 3, none⟩ = some (.int .i32 L[k].l) ∧ w.cell? ⟨g, k * 3 + 1, none⟩ = some (.int .i64 L[k].lv) ∧ w.cell? ⟨g, k * 3 + 2, none⟩ = some (.int .i64 L[k].rs) := by
  obtain ⟨g, rfl, hr⟩ := h.row (by omega)
  obtain ⟨e0, e1, e2⟩ := enC_at L hk
  exact ⟨g, rfl, hr.lt, by rw [hr.cell (show k * 3 < L.length * 3 by omega), e0], by rw [hr.cell (show k * 3 + 1 < L.length * 3 by omega), e1], by rw [hr.cell (show k * 3 + 2 < L.length * 3 by omega), e2]⟩
/-- A plain trail by value. -/
abbrev trV (V D : Int) (A : Option Addr) (m c : Nat) : Value := .agg #[.int .i64 V, .int .i64 D, .slice A m c]
/-- What Find answers. -/
def findV (L : List Ent) (v : Int) : Value := match findE L v with
  | some x => .tuple #[.agg #[.int .i32 x.l, .int .i64 x.lv, .int .i64 x.rs], .bool true]
  | none => .tuple #[.agg #[.int .i32 0, .int .i64 (-1), .int .i64 (-1)], .bool false]
theorem find_first {n d : Nat} {L : List Ent} (hO : Pre n d L) {k : Nat} (hk : k < L.length) : findE L (varZ L[k].l) = some L[k] := hO.find (List.getElem_mem hk)
theorem find_none {L : List Ent} {v : Int} (h : ∀ j (hj : j < L.length), varZ L[j].l ≠ v) : findE L v = none := findE_none.2 fun x hx => by
  obtain ⟨j, hj, rfl⟩ := List.getElem_of_mem hx
  exact h j hj

/-- Three cells of a block set anew. -/
theorem three_set {w : World} {g : Nat} {a b c : Value} {T : TypeId} (h : w.heap[g]? = some (.cells #[a, b, c] T (0, 0))) (x y z : Value) :
    (((w.setCell ⟨g, 0, none⟩ x).setCell ⟨g, 1, none⟩ y).setCell ⟨g, 2, none⟩ z).heap[g]? = some (.cells #[x, y, z] T (0, 0)) := by
  rw [Lib.heap_setCell_same (Lib.heap_setCell_same (Lib.heap_setCell_same h x) y) z]
  rfl
theorem cells3 {w : World} {g : Nat} {x y z : Value} {T : TypeId} (h : w.heap[g]? = some (.cells #[x, y, z] T (0, 0))) : w.cell? ⟨g, 0, none⟩ = some x ∧ w.cell? ⟨g, 1, none⟩ = some y ∧ w.cell? ⟨g, 2, none⟩ = some z := by
  rw [Lib.cell_of_heap h, Lib.cell_of_heap h, Lib.cell_of_heap h]; exact ⟨rfl, rfl, rfl⟩
set_option maxHeartbeats 6400000 in
set_option maxRecDepth 100000 in
theorem rfind_any {n d : Nat} {L : List Ent} (V D : Int) (A : Option Addr) (c : Nat) (v : Int) (w : World) (h : EnAt w A c L) (hO : Pre n d L) (hl : L.length ≤ 100000) :
    Calls Try.prog 20 #[trV V D A L.length c, .int .i64 v] w fun e w' => e = .returned (findV L v) ∧ Below w.heap.size w w' := by
  have HO := Lib.hid hO
  have hcm := h.bd
  obtain ⟨hcm1, hcm2⟩ := hcm
  have HEn := Lib.hid h
  clear hO h
  obtain ⟨W2, hW2⟩ : ∃ W2, W2 = (w.alloc (.cells #[.int .i64 V, .int .i64 D, .slice A L.length c] 36)).alloc (.cells #[.int .i32 0, .int .i64 0, .int .i64 0] 46) := ⟨_, rfl⟩
  have HB2 : Hid (Below w.heap.size w W2) := by unfold Hid; rw [hW2]; exact ((Below.refl _ _).alloc (Nat.le_refl _) _).alloc (by simp) _
  have HS2 : Hid (W2.heap.size = w.heap.size + 2) := by unfold Hid; rw [hW2]; simp
  have HH2 : Hid (W2.heap[w.heap.size + 1]? = some (.cells #[.int .i32 0, .int .i64 0, .int .i64 0] 46 (0, 0))) := by
    unfold Hid
    rw [hW2]
    have := blk_new (w.alloc (.cells #[.int .i64 V, .int .i64 D, .slice A L.length c] 36)) (.cells #[.int .i32 0, .int .i64 0, .int .i64 0] 46)
    simpa using this
  have HW2 := Lib.hid hW2
  clear hW2
  go_enter Try.func20, Try.ntmps20
  go_wp2_with fail
  rw [← HW2.out]
  go_loopw [11] (fun i wr => ∃ k : Nat, i = .int .i64 (k : Int) ∧ k ≤ L.length ∧ Below (w.heap.size + 2) W2 wr ∧ ∀ j (hj : j < L.length), j < k → varZ L[j].l ≠ v) (fun i _ => L.length - (intOf i).toNat)
  case atStart => exact ⟨0, rfl, by omega, Below.refl _ _, fun j _ h => by omega⟩
  case round =>
    obtain ⟨k, rfl, hk, hB, hno⟩ := hrel
    have HBk := Lib.hid hB
    have hsz := hB.size
    rw [HS2.out] at hsz
    have hr4 : wr.heap[w.heap.size + 1]? = some (.cells #[.int .i32 0, .int .i64 0, .int .i64 0] 46 (0, 0)) := (hB.block _ (by omega)).trans HH2.out
    have r0 : wr.cell? ⟨w.heap.size + 1, 0, none⟩ = some (.int .i32 0) := by rw [Lib.cell_of_heap hr4]; rfl
    have r1 : wr.cell? ⟨w.heap.size + 1, 1, none⟩ = some (.int .i64 0) := by rw [Lib.cell_of_heap hr4]; rfl
    have r2 : wr.cell? ⟨w.heap.size + 1, 2, none⟩ = some (.int .i64 0) := by rw [Lib.cell_of_heap hr4]; rfl
    have rf := Lib.frozen_of_heap hr4
    have HR4 := Lib.hid hr4
    have HNO := Lib.hid hno
    have HBW : Hid (∀ W, Below (w.heap.size + 1) wr W → Below w.heap.size w W) := fun W hW => HB2.out.trans ((HBk.out.mono (by omega)).trans (hW.mono (by omega)))
    clear hB hr4 hno
    by_cases hlt : k < L.length
    · have tk : decide (k < L.length) = true := decide_eq_true hlt
      obtain ⟨g, rfl, hg, e0, e1, e2⟩ := EnAt.at_ (SlV.below HEn.out (HB2.out.trans (HBk.out.mono (by omega)))) hlt
      have hx := HO.out.one _ (List.getElem_mem hlt)
      have h1 := varZ_ge hx.1
      have h3 := (one_iff _).1 hx.1
      have HV : Hid (∀ W, Calls Try.prog 26 #[.int .i32 L[k].l] W fun e w' => e = .returned (.int .i64 (varZ L[k].l)) ∧ W = w') := fun W => rvar_any L[k].l W (by omega) (by omega)
      by_cases hv : varZ L[k].l = v
      · have HF : Hid (findV L v = .tuple #[.agg #[.int .i32 L[k].l, .int .i64 L[k].lv, .int .i64 L[k].rs], .bool true]) := by
          unfold Hid findV; rw [← hv, find_first HO.out hlt]
        rw [hv] at HV h1
        have t0 : decide (0 < v) = true := decide_eq_true (by omega)
        have tv : (v == v) = true := by simp
        clear hx h3 hv
        generalize L[k].l = x at *
        generalize L[k].lv = y at *
        generalize L[k].rs = z at *
        go_wp2_with fail
        refine (HV.out _).mono ?_
        rintro e w' ⟨rfl, rfl⟩
        have hb3 : (wr.alloc (.cells #[.int .i32 x, .int .i64 y, .int .i64 z] 46)).heap[w.heap.size + 1]? = some (.cells #[.int .i32 0, .int .i64 0, .int .i64 0] 46 (0, 0)) := (Below.heap_alloc _ _ _ (by omega)).trans HR4.out
        obtain ⟨s0, s1, s2⟩ := cells3 hb3
        have sf := Lib.frozen_of_heap hb3
        have hq := three_set hb3 (.int .i32 x) (.int .i64 y) (.int .i64 z)
        obtain ⟨p0, p1, p2⟩ := cells3 hq
        have HBZ : Hid (Below w.heap.size w ((((wr.alloc (.cells #[.int .i32 x, .int .i64 y, .int .i64 z] 46)).setCell ⟨w.heap.size + 1, 0, none⟩ (.int .i32 x)).setCell ⟨w.heap.size + 1, 1, none⟩ (.int .i64 y)).setCell ⟨w.heap.size + 1, 2, none⟩ (.int .i64 z))) :=
          (((HBW.out _ ((Below.refl _ _).alloc (by omega) _)).setCell (p := ⟨w.heap.size + 1, 0, none⟩) (by simp) _).setCell (p := ⟨w.heap.size + 1, 1, none⟩) (by simp) _).setCell (p := ⟨w.heap.size + 1, 2, none⟩) (by simp) _
        clear hq hb3
        go_wp2_with fail
        refine bodyPost_ret (v := .tuple #[.agg #[.int .i32 x, .int .i64 y, .int .i64 z], .bool true]) (by simp [results, Try.results20, go_sem, p0, p1, p2]) rfl ?_
        exact ⟨by rw [HF.out], HBZ.out⟩
      · have tv : (varZ L[k].l == v) = false := by rw [beq_eq_false_iff_ne]; exact hv
        have HN : Hid (∀ j (hj : j < L.length), j < k + 1 → varZ L[j].l ≠ v) := fun j hj hjk => by
          by_cases e : j = k
          · subst e; exact hv
          · exact HNO.out j hj (by omega)
        have HBn : Hid (Below (w.heap.size + 2) W2 (wr.alloc (.cells #[.int .i32 L[k].l, .int .i64 L[k].lv, .int .i64 L[k].rs] 46))) := HBk.out.alloc (by omega) _
        clear hx h1 h3 hv
        generalize L[k].l = x at *
        generalize L[k].lv = y at *
        generalize L[k].rs = z at *
        generalize varZ x = u at *
        go_wp2_with fail
        refine (HV.out _).mono ?_
        rintro e w' ⟨rfl, rfl⟩
        go_wp2_with fail
        go_roundw
        case rel => exact ⟨k + 1, by go_num, by omega, HBn.out, HN.out⟩
        case measure => simp [intOf]; omega
    · have tk : decide (k < L.length) = false := decide_eq_false hlt
      have HF : Hid (findV L v = .tuple #[.agg #[.int .i32 0, .int .i64 (-1), .int .i64 (-1)], .bool false]) := by
        unfold Hid findV; rw [find_none fun j hj => HNO.out j hj (by omega)]
      have hq := three_set HR4.out (.int .i32 0) (.int .i64 (-1)) (.int .i64 (-1))
      obtain ⟨p0, p1, p2⟩ := cells3 hq
      have HBZ : Hid (Below w.heap.size w (((wr.setCell ⟨w.heap.size + 1, 0, none⟩ (.int .i32 0)).setCell ⟨w.heap.size + 1, 1, none⟩ (.int .i64 (-1))).setCell ⟨w.heap.size + 1, 2, none⟩ (.int .i64 (-1)))) :=
        (((HBW.out _ (Below.refl _ _)).setCell (p := ⟨w.heap.size + 1, 0, none⟩) (by simp) _).setCell (p := ⟨w.heap.size + 1, 1, none⟩) (by simp) _).setCell (p := ⟨w.heap.size + 1, 2, none⟩) (by simp) _
      clear hq
      go_wp2_with fail
      refine bodyPost_ret (v := .tuple #[.agg #[.int .i32 0, .int .i64 (-1), .int .i64 (-1)], .bool false]) (by simp [results, Try.results20, go_sem, p0, p1, p2]) rfl ?_
      exact ⟨by rw [HF.out], HBZ.out⟩
theorem val_hit {n d : Nat} {L : List Ent} (hO : Pre n d L) {k : Nat} (hk : k < L.length) : valZ L L[k].l = 1 := by
  unfold valZ; rw [find_first hO hk]; simp
theorem varZ_neg_of {l : Int} (h : LitM.one l = true) : varZ (-l) = varZ l := by
  rcases (one_iff l).1 h with ⟨a, b⟩ | ⟨a, b⟩
  · rw [varZ_pos a b, varZ_neg (by omega) (by omega)]; omega
  · rw [varZ_neg a b, varZ_pos (by omega) (by omega)]
theorem val_opp {n d : Nat} {L : List Ent} (hO : Pre n d L) {k : Nat} (hk : k < L.length) {l : Int} (h1 : LitM.one l = true) (h : L[k].l = -l) : valZ L l = -1 := by
  have hv : varZ l = varZ L[k].l := by rw [h, varZ_neg_of h1]
  unfold valZ
  rw [hv, find_first hO hk]
  show (if L[k].l = l then (1 : Int) else -1) = -1
  have := (one_iff l).1 h1
  rw [if_neg (by omega)]
theorem val_none {n d : Nat} {L : List Ent} (hO : Pre n d L) {l : Int} (h : ∀ j (hj : j < L.length), L[j].l ≠ l ∧ ¬ (LitM.one l = true ∧ L[j].l = -l)) : valZ L l = 0 := by
  unfold valZ
  rw [find_none fun j hj e => ?_]
  obtain ⟨a, b⟩ := h j hj
  have h1 := hO.one _ (List.getElem_mem hj)
  have h2 := varZ_ge h1.1
  have h3 := (one_iff _).1 h1.1
  have ho : LitM.one l = true := by
    cases ho : LitM.one l with
    | true => rfl
    | false => rw [varZ_out ho] at e; omega
  have h4 := (one_iff l).1 ho
  apply b
  refine ⟨ho, ?_⟩
  rcases h3 with ⟨p, q⟩ | ⟨p, q⟩ <;> rcases h4 with ⟨p', q'⟩ | ⟨p', q'⟩
  · rw [varZ_pos p q, varZ_pos p' q'] at e; exact absurd e a
  · rw [varZ_pos p q, varZ_neg p' q'] at e; exact e
  · rw [varZ_neg p q, varZ_pos p' q'] at e; omega
  · rw [varZ_neg p q, varZ_neg p' q'] at e; exact absurd (by omega) a
/-- Not among the first k. -/
def NoV (L : List Ent) (l : Int) (k : Nat) : Prop := ∀ j (hj : j < L.length), j < k → L[j].l ≠ l ∧ ¬ (LitM.one l = true ∧ L[j].l = -l)
set_option maxHeartbeats 6400000 in
set_option maxRecDepth 100000 in
theorem rvalue_any {n d : Nat} {L : List Ent} (V D : Int) (A : Option Addr) (c : Nat) (l : Int) (w : World) (h : EnAt w A c L) (hO : Pre n d L) (hl : L.length ≤ 100000) (l0 : -2147483648 ≤ l) (l1 : l ≤ 2147483647) :
    Calls Try.prog 24 #[trV V D A L.length c, .int .i32 l] w fun e w' => e = .returned (.int .i64 (valZ L l)) ∧ Below w.heap.size w w' := by
  have HO := Lib.hid hO
  have hcm := h.bd
  obtain ⟨hcm1, hcm2⟩ := hcm
  have HEn := Lib.hid h
  clear hO h
  go_enter Try.func24, Try.ntmps24
  go_wp2_with fail
  obtain ⟨wo, rfl⟩ : ∃ wo : World, wo = w := ⟨_, rfl⟩
  go_loopw [10] (fun i wr => ∃ k : Nat, i = .int .i64 (k : Int) ∧ k ≤ L.length ∧ Below wo.heap.size wo wr ∧ NoV L l k) (fun i _ => L.length - (intOf i).toNat)
  case atStart => exact ⟨0, rfl, by omega, (Below.refl _ _).alloc (Nat.le_refl _) _, fun j _ h => by omega⟩
  case round =>
    obtain ⟨k, rfl, hk, hB, hno⟩ := hrel
    have HBk := Lib.hid hB
    have HNO := Lib.hid hno
    clear hB hno
    by_cases hlt : k < L.length
    · have tk : decide (k < L.length) = true := decide_eq_true hlt
      obtain ⟨g, rfl, hg, e0, e1, e2⟩ := EnAt.at_ (SlV.below HEn.out HBk.out) hlt
      have HBn : Hid (Below wo.heap.size wo (wr.alloc (.cells #[.int .i32 L[k].l, .int .i64 L[k].lv, .int .i64 L[k].rs] 46))) := HBk.out.alloc HBk.out.size _
      have HON := Lib.hid (fun W => rone_any l W)
      by_cases h1 : L[k].l = l
      · have HF : Hid (valZ L l = 1) := by unfold Hid; rw [← h1]; exact val_hit HO.out hlt
        have t1 : (L[k].l == l) = true := by rw [beq_iff_eq]; exact h1
        clear h1
        generalize L[k].l = x at *
        generalize L[k].lv = y at *
        generalize L[k].rs = z at *
        go_wp2_with fail
        go_ret
        exact ⟨ret_int (by rw [HF.out]), HBn.out⟩
      · have t1 : (L[k].l == l) = false := by rw [beq_eq_false_iff_ne]; exact h1
        cases ho : LitM.one l with
        | false =>
          rw [ho] at HON
          have HN : Hid (NoV L l (k + 1)) := fun j hj hjk => by
            by_cases e : j = k
            · subst e; exact ⟨h1, fun h => by rw [ho] at h; cases h.1⟩
            · exact HNO.out j hj (by omega)
          clear h1
          generalize L[k].l = x at *
          generalize L[k].lv = y at *
          generalize L[k].rs = z at *
          go_wp2_with fail
          refine (HON.out _).mono ?_
          rintro e w' ⟨rfl, rfl⟩
          go_wp2_with fail
          go_roundw
          case rel => exact ⟨k + 1, by go_num, by omega, HBn.out, HN.out⟩
          case measure => simp [intOf]; omega
        | true =>
          rw [ho] at HON
          have hol := (one_iff l).1 ho
          have hw : IntKind.i32.wrap (-l) = -l := by rw [IntKind.wrap_i32]; omega
          by_cases h2 : L[k].l = -l
          · have HF : Hid (valZ L l = -1) := val_opp HO.out hlt ho h2
            have t2 : (L[k].l == -l) = true := by rw [beq_iff_eq]; exact h2
            clear h1 h2
            generalize L[k].l = x at *
            generalize L[k].lv = y at *
            generalize L[k].rs = z at *
            go_wp2_with fail
            refine (HON.out _).mono ?_
            rintro e w' ⟨rfl, rfl⟩
            go_wp2_with fail
            go_ret
            exact ⟨ret_int (by rw [HF.out]), HBn.out⟩
          · have t2 : (L[k].l == -l) = false := by rw [beq_eq_false_iff_ne]; exact h2
            have HN : Hid (NoV L l (k + 1)) := fun j hj hjk => by
              by_cases e : j = k
              · subst e; exact ⟨h1, fun h => h2 h.2⟩
              · exact HNO.out j hj (by omega)
            clear h1 h2
            generalize L[k].l = x at *
            generalize L[k].lv = y at *
            generalize L[k].rs = z at *
            go_wp2_with fail
            refine (HON.out _).mono ?_
            rintro e w' ⟨rfl, rfl⟩
            go_wp2_with fail
            go_roundw
            case rel => exact ⟨k + 1, by go_num, by omega, HBn.out, HN.out⟩
            case measure => simp [intOf]; omega
    · have tk : decide (k < L.length) = false := decide_eq_false hlt
      have HF : Hid (valZ L l = 0) := val_none HO.out fun j hj => HNO.out j hj (by omega)
      go_wp2_with fail
      go_ret
      exact ⟨ret_int (by rw [HF.out]), HBk.out⟩
end Go.Proofs.Ytcgihbffdejnbaa
