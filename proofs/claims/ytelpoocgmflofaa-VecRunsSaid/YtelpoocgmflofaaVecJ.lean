/- Input, Widen, Number; the plain answers' power, Width, Cut, Bits. -/
import Derived.Test.YtelpoocgmflofaaVecI
namespace Go.Proofs.Ytelpoocgmflofaa
open Go.RowKit GatM VecM

/-- So many INPUTS' edges, behind n gates. -/
def inL (n k : Nat) : List Nat := (List.range k).map fun j => 2 * (n + j)
theorem inL_len (n k : Nat) : (inL n k).length = k := by simp [inL]
theorem inL_at (n : Nat) {k j : Nat} (h : j < k) : (inL n k).getD j 0 = 2 * (n + j) := by
  unfold inL
  rw [List.getD, List.getElem?_map, List.getElem?_range h]
  rfl
theorem inL_succ (n k : Nat) : inL n (k + 1) = inL n k ++ [2 * (n + k)] := by unfold inL; rw [List.range_succ, List.map_append]; rfl
def mor (gs : Gs) (k : Nat) : Gs := gs ++ List.replicate k (0, 0)
theorem mor_len (gs : Gs) (k : Nat) : (mor gs k).length = gs.length + k := by simp [mor]
theorem mor_succ (gs : Gs) (k : Nat) : mor gs (k + 1) = mor gs k ++ [(0, 0)] := by unfold mor; rw [List.replicate_succ', List.append_assoc]
theorem mor_ex (gs : Gs) (k : Nat) : Ex gs (mor gs k) := ⟨_, rfl⟩
theorem inL_in (gs : Gs) (k : Nat) : AllIn (mor gs k) (inL gs.length k) := fun x hx => by
  obtain ⟨j, hj, rfl⟩ := List.mem_map.1 hx
  have := List.mem_range.1 hj
  rw [mor_len]; omega
/-- What Input leaves. -/
def InTo (B : Nat) (w0 w : World) (c : GrC) (gs : Gs) (m : Nat) (e : Ending) (w' : World) : Prop :=
  ∃ (g : Nat) (c' : GrC), e = .returned (.tuple #[.slice (some ⟨g, 0, none⟩) m m, .int .i64 0]) ∧ LvTo B w0 w w' c c' (mor gs m) ∧ VcAt w' c' (some ⟨g, 0, none⟩) m (inL gs.length m) ∧ w.heap.size ≤ g
section
variable {B : Nat} {w0 w : World} {c : GrC} {gs : Gs}
set_option maxHeartbeats 1600000 in
set_option maxRecDepth 100000 in
theorem vInput_any (h : LvG B w0 w c gs) (m : Nat) (hm : fitN m) (hg : gs.length ≤ 60000) : Calls Try.prog 13 #[.pointer (some ⟨c.bg, 0, none⟩), .int .i64 (m : Int)] w (InTo B w0 w c gs m) := by
  have HF := Lib.hid (vfitsZ_any (m : Int) w)
  rw [decide_eq_true (show (1 ≤ (m : Int) ∧ (m : Int) ≤ 32) by have := hm; unfold fitN at this; omega)] at HF
  obtain ⟨hm1, hm2⟩ := hm
  have HLN := Lib.hid h.len_
  obtain ⟨C, hC1, hC2, hmk⟩ := make_vec m (by omega)
  have hmk0 := hmk w
  have H0 : Hid (OutAt B w0 w c w.heap.size m (inL gs.length 0) (w.alloc (.cells C 25)) c (mor gs 0)) := by
    have := OutAt.start h (by omega) hC1 hC2
    unfold mor
    rw [List.replicate_zero, List.append_nil]
    exact this
  have HB := Lib.hid h.hB
  have tg : decide (1048576 - (m : Int) < (gs.length : Int)) = false := decide_eq_false (by omega)
  have HGL := Lib.hid hg
  obtain ⟨bg, hbg⟩ : ∃ bg, bg = c.bg := ⟨_, rfl⟩
  rw [← hbg] at HLN ⊢
  have HBG := Lib.hid hbg
  clear h hC1 hC2 hmk hbg
  go_enter Try.func13, Try.ntmps13
  go_wp2_with fail
  refine HF.out.mono ?_
  rintro e w' ⟨rfl, rfl⟩
  go_wp2_with fail
  refine HLN.out.mono ?_
  rintro e w' ⟨rfl, rfl⟩
  go_wp2_with fail
  go_loopw [22] (fun i wr => ∃ (k : Nat) (ck : GrC), i = .int .i64 (k : Int) ∧ k ≤ m ∧ Hid (OutAt B w0 w c w.heap.size m (inL gs.length k) wr ck (mor gs k))) (fun i _ => m - (intOf i).toNat)
  case atStart => exact ⟨0, c, rfl, Nat.zero_le _, H0⟩
  case round =>
    clear H0 HLN HF
    obtain ⟨k, ck, rfl, hk, HO⟩ := hrel
    by_cases hlt : k < m
    · have tk : decide ((k : Int) < (m : Int)) = true := decide_eq_true (by omega)
      have tk2 : decide (k < m) = true := decide_eq_true hlt
      have tk3 : decide ((m : Int) ≤ (k : Int)) = false := decide_eq_false (by omega)
      have hin := HO.out.tr.lv.input (by rw [mor_len]; have := HGL.out; omega)
      rw [HO.out.tr.bg, ← HBG.out, mor_len] at hin
      have HI : Hid (Calls Try.prog 21 #[.pointer (some ⟨bg, 0, none⟩)] wr fun e w' => e = .returned (.tuple #[.int .u32 ((2 * (gs.length + k) : Nat) : Int), .int .i64 0]) ∧ ∃ c', LvTo B w0 wr w' ck c' (mor gs k ++ [(0, 0)])) := by
        refine hin.mono fun e w' ⟨q1, q2⟩ => ⟨?_, q2⟩
        rw [q1]
        congr 4
      have HS : Hid (∀ w3 c3, LvTo B w0 wr w3 ck c3 (mor gs k ++ [(0, 0)]) → w3.cell? ⟨w.heap.size, k, none⟩ = some (.int .u32 0) ∧ w3.frozen? ⟨w.heap.size, k, none⟩ = false ∧ Hid (OutAt B w0 w c w.heap.size m (inL gs.length (k + 1)) (w3.setCell ⟨w.heap.size, k, none⟩ (.int .u32 ((2 * (gs.length + k) : Nat) : Int))) c3 (mor gs (k + 1)))) := fun w3 c3 h2 => by
        have := HO.out.put HB.out h2 (by rw [inL_len]; exact hlt) (2 * (gs.length + k))
        rw [inL_len] at this
        refine ⟨this.1, this.2.1, ?_⟩
        rw [inL_succ, mor_succ]
        exact this.2.2
      clear HO hin
      generalize 2 * (gs.length + k) = x at *
      go_wp2_with fail
      refine HI.out.mono ?_
      rintro e w3 ⟨rfl, c3, hT⟩
      obtain ⟨d1, d2, HN2⟩ := HS.out w3 c3 hT
      clear hT HS HI
      go_wp2_with fail
      go_roundw
      case rel => exact ⟨k + 1, c3, by go_num, by omega, HN2⟩
      case measure => simp [intOf]; omega
    · have tk : decide ((k : Int) < (m : Int)) = false := decide_eq_false (by omega)
      have tk2 : decide (k < m) = false := decide_eq_false hlt
      obtain rfl : k = m := by omega
      have HE : Hid (InTo B w0 w c gs k (.returned (.tuple #[.slice (some ⟨w.heap.size, 0, none⟩) k k, .int .i64 0])) wr) :=
        ⟨_, ck, rfl, HO.out.tr, HO.out.vc (by omega) (inL_len _ _), Nat.le_refl _⟩
      clear HO
      go_wp2_with fail
      go_ret2
      exact HE.out
/-- What can't be. -/
theorem vInput_no {p : Value} (n : Int) (hn : ¬ (1 ≤ n ∧ n ≤ 32)) (W : World) : Calls Try.prog 13 #[p, .int .i64 n] W fun e w' => e = .returned (.tuple #[.slice none 0 0, .int .i64 111]) ∧ W = w' := by
  have HF := Lib.hid (vfitsZ_any n W)
  rw [decide_eq_false hn] at HF
  clear hn
  go_enter Try.func13, Try.ntmps13
  go_wp2_with fail
  refine HF.out.mono ?_
  rintro e w' ⟨rfl, rfl⟩
  go_wp2_with fail
  go_ret2
  exact ⟨rfl, rfl⟩
end
/-- What Widen answers. -/
def Wid2To (w : World) (l : List Nat) (n : Nat) (m : Int) (e : Ending) (w' : World) : Prop :=
  if 1 ≤ n ∧ n ≤ 32 ∧ 1 ≤ m ∧ m ≤ 32 ∧ (n : Int) ≤ m then ∃ v, e = .returned (.tuple #[v, .int .i64 0]) ∧ WidTo w l m.toNat (.returned v) w' else e = .returned (.tuple #[.slice none 0 0, .int .i64 111]) ∧ w = w'
set_option maxHeartbeats 1600000 in
theorem vWiden_any {w : World} {c : GrC} {A : Option Addr} {n cn : Nat} {l : List Nat} (hl : VcAt w c A n l) (hn : n ≤ 1000) (m : Int) (hmm : -9223372036854775808 ≤ m ∧ m ≤ 9223372036854775807) : Calls Try.prog 15 #[.slice A n cn, .int .i64 m] w (Wid2To w l n m) := by
  have HF1 := Lib.hid (vfitsZ_any (n : Int) w)
  have HF2 := Lib.hid (vfitsZ_any m w)
  have HE : Hid (∀ e w', Wid2To w l n m e w' = if 1 ≤ n ∧ n ≤ 32 ∧ 1 ≤ m ∧ m ≤ 32 ∧ (n : Int) ≤ m then ∃ v, e = .returned (.tuple #[v, .int .i64 0]) ∧ WidTo w l m.toNat (.returned v) w' else e = .returned (.tuple #[.slice none 0 0, .int .i64 111]) ∧ w = w') := fun _ _ => rfl
  by_cases h1 : 1 ≤ n ∧ n ≤ 32
  · rw [decide_eq_true (show (1 ≤ (n : Int) ∧ (n : Int) ≤ 32) by omega)] at HF1
    by_cases h2 : 1 ≤ m ∧ m ≤ 32
    · rw [decide_eq_true h2] at HF2
      by_cases h3 : (n : Int) ≤ m
      · have t3 : decide (m < (n : Int)) = false := decide_eq_false (by omega)
        obtain ⟨k, rfl⟩ : ∃ k : Nat, m = (k : Int) := ⟨m.toNat, by omega⟩
        have HWD := Lib.hid (vwiden_any (cn := cn) hl hn k (by omega))
        have HE2 : Hid (∀ v w', WidTo w l k (.returned v) w' → Wid2To w l n (k : Int) (.returned (.tuple #[v, .int .i64 0])) w') := fun v w' hw => by
          rw [HE.out, if_pos ⟨h1.1, h1.2, h2.1, h2.2, h3⟩]
          exact ⟨v, rfl, by rw [Int.toNat_natCast]; exact hw⟩
        clear HE hl h1 h2
        go_enter Try.func15, Try.ntmps15
        go_wp2_with fail
        refine HF1.out.mono ?_
        rintro e w' ⟨rfl, rfl⟩
        go_wp2_with fail
        refine HF2.out.mono ?_
        rintro e w' ⟨rfl, rfl⟩
        go_wp2_with fail
        refine HWD.out.mono ?_
        rintro e w2 ⟨g, rfl, q1, q2, q3⟩
        have HR := Lib.hid (HE2.out _ w2 ⟨g, rfl, q1, q2, q3⟩)
        clear q1 q2 q3 HWD HE2
        go_wp2_with fail
        go_ret2
        exact HR.out
      · have t3 : decide (m < (n : Int)) = true := decide_eq_true (by omega)
        have HE2 : Hid (Wid2To w l n m (.returned (.tuple #[.slice none 0 0, .int .i64 111])) w) := by
          unfold Hid
          rw [HE.out, if_neg (fun q => h3 q.2.2.2.2)]
          exact ⟨rfl, rfl⟩
        clear HE hl h1 h2 h3
        go_enter Try.func15, Try.ntmps15
        go_wp2_with fail
        refine HF1.out.mono ?_
        rintro e w' ⟨rfl, rfl⟩
        go_wp2_with fail
        refine HF2.out.mono ?_
        rintro e w' ⟨rfl, rfl⟩
        go_wp2_with fail
        go_ret2
        exact HE2.out
    · rw [decide_eq_false h2] at HF2
      have HE2 : Hid (Wid2To w l n m (.returned (.tuple #[.slice none 0 0, .int .i64 111])) w) := by
        unfold Hid
        rw [HE.out, if_neg (fun q => h2 ⟨q.2.2.1, q.2.2.2.1⟩)]
        exact ⟨rfl, rfl⟩
      clear HE hl h1 h2
      go_enter Try.func15, Try.ntmps15
      go_wp2_with fail
      refine HF1.out.mono ?_
      rintro e w' ⟨rfl, rfl⟩
      go_wp2_with fail
      refine HF2.out.mono ?_
      rintro e w' ⟨rfl, rfl⟩
      go_wp2_with fail
      go_ret2
      exact HE2.out
  · rw [decide_eq_false (show ¬ (1 ≤ (n : Int) ∧ (n : Int) ≤ 32) by omega)] at HF1
    have HE2 : Hid (Wid2To w l n m (.returned (.tuple #[.slice none 0 0, .int .i64 111])) w) := by
      unfold Hid
      rw [HE.out, if_neg (fun q => h1 ⟨q.1, q.2.1⟩)]
      exact ⟨rfl, rfl⟩
    clear HE hl h1 HF2
    go_enter Try.func15, Try.ntmps15
    go_wp2_with fail
    refine HF1.out.mono ?_
    rintro e w' ⟨rfl, rfl⟩
    go_wp2_with fail
    go_ret2
    exact HE2.out
end Go.Proofs.Ytelpoocgmflofaa
