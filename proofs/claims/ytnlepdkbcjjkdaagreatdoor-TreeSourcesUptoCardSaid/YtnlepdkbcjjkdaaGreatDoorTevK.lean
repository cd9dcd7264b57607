/- Package tree: what is written into a builder while older memory stays; writeRule. -/
import Derived.Test.YtnlepdkbcjjkdaaGreatDoorTevJ
namespace Go.Proofs.YtnlepdkbcjjkdaaGreatDoor
open Go.RowKit TreM WrdM

/-- A builder that is written, beside memory that stays. -/
structure Fr (W0 w : World) (B b : Nat) (l : List UInt8) : Prop where
  h0 : Below W0.heap.size W0 w
  hB : W0.heap.size ≤ B
  hb : BldAt B b l w
  hw : B ≤ w.heap.size
theorem Fr.cell {W0 w : World} {B b : Nat} {l : List UInt8} (h : Fr W0 w B b l) {g i : Nat} {v : Value} (hg : g < W0.heap.size) (hc : W0.cell? ⟨g, i, none⟩ = some v) : w.cell? ⟨g, i, none⟩ = some v := (h.h0.cell (p := ⟨g, i, none⟩) hg).trans hc
theorem Fr.str {W0 w : World} {B b : Nat} {l : List UInt8} (h : Fr W0 w B b l) (s : ByteArray) (t : List UInt8) (hs : s = ⟨t.toArray⟩) (hl : (l ++ t).length ≤ 140737488355328) :
    Calls Tryz.prog 20 #[.pointer (some ⟨b, 0, none⟩), .string s] w fun e w' => (∃ v, e = .returned v) ∧ Fr W0 w' B b (l ++ t) := by
  refine (writeString_b B b l s t w hs h.hb h.hw (by rw [← List.length_append]; exact hl)).mono ?_
  rintro e w' ⟨he, h1, h2⟩
  exact ⟨he, below_on h.h0 h2 h.hB, h.hB, h1, Nat.le_trans h.hw h2.size⟩
theorem Fr.ex {W0 w : World} {B b : Nat} {l : List UInt8} (h : Fr W0 w B b l) (hG : TrG W0) {X : Ex} {bx px : Nat} (hX : ExP W0 bx px X) (hs : writB X = true) (hl : (l ++ text X).length ≤ 140737488355328) :
    Calls Tryz.prog 38 #[.pointer (some ⟨b, 0, none⟩), .pointer (some ⟨bx, px, none⟩)] w fun e w' => e = .returned (.tuple #[]) ∧ Fr W0 w' B b (l ++ text X) := by
  refine (write_ok X W0 w B b l bx px hG hX h.h0 h.hB h.hb h.hw (writ_shape hs) (by rw [← List.length_append]; exact hl)).mono ?_
  rintro e w' ⟨he, h1, h2⟩
  exact ⟨he, below_on h.h0 h2 h.hB, h.hB, h1, Nat.le_trans h.hw h2.size⟩
theorem Fr.below {W0 w w' : World} {B b : Nat} {l : List UInt8} (h : Fr W0 w B b l) (hb : Below w.heap.size w w') : Fr W0 w' B b l :=
  ⟨h.h0.trans (hb.mono h.h0.size), h.hB, h.hb.below hb, Nat.le_trans h.hw hb.size⟩

theorem joinC_snoc : ∀ (xs : List (List UInt8)) (x : List UInt8), xs ≠ [] → joinC (xs ++ [x]) = joinC xs ++ [44, 32] ++ x
  | [], _, h => absurd rfl h
  | [a], x, _ => by simp [joinC]
  | a :: b :: r, x, _ => by
    rw [List.cons_append, List.cons_append, joinC, ← List.cons_append, joinC_snoc (b :: r) x (by simp), joinC]
    simp
theorem joinC_take (xs : List (List UInt8)) (k : Nat) (x : List UInt8) (h : xs[k]? = some x) : joinC (xs.take (k + 1)) = if 0 < k then joinC (xs.take k) ++ [44, 32] ++ x else x := by
  rw [List.take_add_one, h]
  have hk : k < xs.length := by
    rcases Nat.lt_or_ge k xs.length with h' | h'
    · exact h'
    · rw [List.getElem?_eq_none h'] at h; cases h
  split
  · rename_i h0
    rw [Option.toList_some, joinC_snoc _ _ (fun e => by
      have := congrArg List.length e
      rw [List.length_take, List.length_nil] at this
      omega)]
  · have : k = 0 := by omega
    subst this
    simp [joinC]
theorem joinC_le : ∀ (xs : List (List UInt8)) (k : Nat), (joinC (xs.take k)).length ≤ (joinC xs).length := by
  intro xs k
  induction hn : xs.length - k generalizing k with
  | zero => rw [List.take_of_length_le (by omega)]; exact Nat.le_refl _
  | succ n ih =>
    have hk : k < xs.length := by omega
    obtain ⟨x, hx⟩ := get_el hk
    have h1 := ih (k + 1) (by omega)
    have h2 := joinC_take xs k x hx
    have h3 : (joinC (xs.take k)).length ≤ (joinC (xs.take (k + 1))).length := by
      rw [h2]
      split
      · simp only [List.length_append]; omega
      · have : k = 0 := by omega
        subst this
        simp [joinC]
    omega

/-- A rule at a place. -/
def RulP (W : World) (b p : Nat) (r : Rul) : Prop := ∃ cs : List Value, (∀ i v, cs[i]? = some v → W.cell? ⟨b, p + i, none⟩ = some v) ∧ RulC W r cs
set_option maxHeartbeats 6400000 in
set_option maxRecDepth 100000 in
theorem writeRule_any {W0 w : World} {B b : Nat} {l : List UInt8} (h : Fr W0 w B b l) (hG : TrG W0) (r : Rul) {bx px : Nat} (hbx : bx < W0.heap.size) (hR : RulP W0 bx px r) (hr : ruleB r = true) (hl : (l ++ ruleT r).length ≤ 140737488355328) :
    Calls Tryz.prog 57 #[.pointer (some ⟨b, 0, none⟩), .pointer (some ⟨bx, px, none⟩)] w fun e w' => e = .returned (.tuple #[]) ∧ Fr W0 w' B b (l ++ ruleT r) := by
  obtain ⟨cs, hcs, xs, v, hx6, rfl, hx, A, cap, rfl, hm, hc, hA⟩ := hR
  have hwX : ExP W0 bx px r.when_ := ⟨xs, fun i v hv => hcs i v (by
    have hi : i < xs.length := by
      rcases Nat.lt_or_ge i xs.length with h' | h'
      · exact h'
      · rw [List.getElem?_eq_none h'] at hv; cases hv
    rw [List.getElem?_append_left hi]; exact hv), hx⟩
  have hsl : W0.cell? ⟨bx, px + 6, none⟩ = some (.slice A r.do_.length cap) := hcs 6 _ (by rw [List.getElem?_append_right (by omega), hx6]; rfl)
  unfold ruleB at hr
  simp only [Bool.and_eq_true, decide_eq_true_eq] at hr
  obtain ⟨hr1, hr2, hr3, hr4⟩ := hr
  have hT : l ++ ruleT r = l ++ [32, 32, 119, 104, 101, 110, 32] ++ text r.when_ ++ [32, 100, 111, 32] ++ joinC (r.do_.map asgT) ++ [59, 10] := by unfold ruleT; simp only [List.append_assoc]
  rw [hT] at hl ⊢
  obtain ⟨l1, hl1⟩ : ∃ l1, l1 = l ++ [32, 32, 119, 104, 101, 110, 32] := ⟨_, rfl⟩
  obtain ⟨l2, hl2⟩ : ∃ l2, l2 = l1 ++ text r.when_ := ⟨_, rfl⟩
  obtain ⟨l3, hl3⟩ : ∃ l3, l3 = l2 ++ [32, 100, 111, 32] := ⟨_, rfl⟩
  rw [← hl1, ← hl2, ← hl3] at hl ⊢
  have hlen := hl
  simp only [List.length_append] at hlen
  have hlen3 : l3.length = l2.length + 4 := by rw [hl3]; simp
  have hlen2 : l2.length = l1.length + (text r.when_).length := by rw [hl2]; simp
  have H1 := Lib.hid (h.str ⟨#[32, 32, 119, 104, 101, 110, 32]⟩ [32, 32, 119, 104, 101, 110, 32] rfl (by rw [← hl1]; omega))
  rw [← hl1] at H1
  have H2 : Hid (∀ w, Fr W0 w B b l1 → Calls Tryz.prog 38 #[.pointer (some ⟨b, 0, none⟩), .pointer (some ⟨bx, px, none⟩)] w fun e w' => e = .returned (.tuple #[]) ∧ Fr W0 w' B b l2) := fun w hw => by
    have := hw.ex hG hwX hr1 (by rw [← hl2]; omega)
    rwa [← hl2] at this
  have H3 : Hid (∀ w, Fr W0 w B b l2 → Calls Tryz.prog 20 #[.pointer (some ⟨b, 0, none⟩), .string ⟨#[32, 100, 111, 32]⟩] w fun e w' => (∃ v, e = .returned v) ∧ Fr W0 w' B b l3) := fun w hw => by
    have := hw.str ⟨#[32, 100, 111, 32]⟩ [32, 100, 111, 32] rfl (by rw [← hl3]; omega)
    rwa [← hl3] at this
  -- each assignment
  have HAS : Hid (∀ k x, r.do_[k]? = some x → ∃ b' p', A = some ⟨b', p', none⟩ ∧ b' < W0.heap.size ∧ W0.cell? ⟨b', p' + k * 9, none⟩ = some (.string ⟨x.name.toArray⟩) ∧ ExP W0 b' (p' + k * 9 + 1) x.to_ ∧ writB x.to_ = true) := fun k x hx => by
    rcases hA with hA | ⟨b', p', hA, hb', hk⟩
    · rw [hA] at hx; simp at hx
    · obtain ⟨cs, _, c1, ys, ll, cc, hy6, rfl, _, hy⟩ := hk k x hx
      refine ⟨b', p', hA, hb', c1 0 _ rfl, ⟨ys, fun i v hv => ?_, hy⟩, ?_⟩
      · have hi : i < ys.length := by
          rcases Nat.lt_or_ge i ys.length with h' | h'
          · exact h'
          · rw [List.getElem?_eq_none h'] at hv; cases hv
        have := c1 (i + 1) v (by rw [List.getElem?_cons_succ, List.getElem?_append_left hi]; exact hv)
        rw [← this]; congr 2; omega
      · have := List.all_eq_true.1 hr4 x (List.mem_of_getElem? hx)
        unfold asgB at this
        rw [Bool.and_eq_true] at this
        exact this.2
  have HJ : Hid (∀ k x, r.do_[k]? = some x → joinC ((r.do_.map asgT).take (k + 1)) = if 0 < k then joinC ((r.do_.map asgT).take k) ++ [44, 32] ++ asgT x else asgT x) := fun k x hx => joinC_take _ k _ (by rw [List.getElem?_map, hx]; rfl)
  have HJ0 : Hid (joinC ((r.do_.map asgT).take 0) = []) := rfl
  have HJn : Hid (joinC ((r.do_.map asgT).take r.do_.length) = joinC (r.do_.map asgT)) := by
    unfold Hid; rw [List.take_of_length_le (by simp)]
  have HJL : Hid (∀ k, l3.length + (joinC ((r.do_.map asgT).take k)).length + 2 ≤ 140737488355328) := fun k => by
    have := joinC_le (r.do_.map asgT) k
    have : ([59, 10] : List UInt8).length = 2 := rfl
    omega
  have HSL : Hid (∀ w l, Fr W0 w B b l → w.cell? ⟨bx, px + 6, none⟩ = some (.slice A r.do_.length cap)) := fun w l hw => hw.cell hbx hsl
  have HGE : Hid (∀ k, k < r.do_.length → ∃ x, r.do_[k]? = some x) := fun k hk => get_el hk
  have HGG := Lib.hid hG
  clear h hx hwX hsl hr1 hr2 hr3 hr4 hA hT hl1 hl2 hl3 hl hlen hlen2 hlen3 hcs hx6 hG
  generalize joinC (r.do_.map asgT) = jall at *
  generalize r.do_.length = m at *
  go_enter Tryz.func57, Tryz.ntmps57
  go_wp2_with fail
  refine H1.out.mono ?_
  rintro e w1 ⟨⟨v1, rfl⟩, hF1⟩
  have HC2 := Lib.hid (H2.out w1 hF1)
  clear hF1 H1 H2
  go_wp2_with fail
  refine HC2.out.mono ?_
  rintro e w2 ⟨rfl, hF2⟩
  have HC3 := Lib.hid (H3.out w2 hF2)
  clear hF2 HC2 H3
  go_wp2_with fail
  refine HC3.out.mono ?_
  rintro e w3 ⟨⟨v3, rfl⟩, hF3⟩
  have HF3 := Lib.hid hF3
  have s6 := HSL.out w3 _ hF3
  clear hF3 HC3
  go_wp2_with fail
  go_loopw [4, 19] (fun _ i wr => ∃ k : Nat, k ≤ m ∧ i = .int .i64 k ∧ Hid (Fr W0 wr B b (l3 ++ joinC ((r.do_.map asgT).take k)))) (fun _ i _ => m - (intOf i).toNat)
  case atStart => exact ⟨0, Nat.zero_le _, rfl, by unfold Hid; rw [HJ0.out, List.append_nil]; exact HF3.out⟩
  case round =>
    clear s6
    obtain ⟨k, hk, rfl, HW⟩ := hrel
    by_cases hlt : k < m
    · have t1 : decide ((k : Int) < (m : Int)) = true := decide_eq_true (by omega)
      have t2 : decide (k < m) = true := decide_eq_true hlt
      obtain ⟨x, hx⟩ := HGE.out k hlt
      obtain ⟨b', p', rfl, hb', hn, hex, hwr⟩ := HAS.out k x hx
      have hjk := HJ.out k x hx
      have hjl := HJL.out (k + 1)
      obtain ⟨nb, hnb⟩ : ∃ nb : ByteArray, nb = ⟨x.name.toArray⟩ := ⟨_, rfl⟩
      rw [← hnb] at hn
      have hasg : asgT x = x.name ++ [32, 58, 61, 32] ++ text x.to_ := rfl
      have hsz : nb.size ≤ 140737488355328 := by
        rw [hnb, size_mk]
        rw [hjk, hasg] at hjl
        split at hjl <;> simp only [List.length_append] at hjl <;> omega
      have z1 : ¬ 9223372036854775807 < nb.size + 4 := by omega
      have hnc : nb ++ ⟨#[32, 58, 61, 32]⟩ = ⟨(x.name ++ [32, 58, 61, 32]).toArray⟩ := by rw [hnb]; exact app_mk _ _
      -- what is written in this round
      obtain ⟨lk, hlk⟩ : ∃ lk, lk = l3 ++ joinC ((r.do_.map asgT).take k) := ⟨_, rfl⟩
      obtain ⟨lm, hlm⟩ : ∃ lm, lm = if 0 < k then lk ++ [44, 32] else lk := ⟨_, rfl⟩
      have hk0e : ¬ 0 < k → lk = l3 := fun h => by
        have : k = 0 := by omega
        rw [hlk, this, HJ0.out, List.append_nil]
      have hend : l3 ++ joinC ((r.do_.map asgT).take (k + 1)) = lm ++ (x.name ++ [32, 58, 61, 32]) ++ text x.to_ := by
        rw [hjk, hlm, hasg]
        split
        · rw [hlk]; simp only [List.append_assoc]
        · rename_i h0; rw [hk0e h0]; simp only [List.append_assoc]
      have hlmt : (lm ++ (x.name ++ [32, 58, 61, 32]) ++ text x.to_).length ≤ 140737488355328 := by rw [← hend, List.length_append]; omega
      have HWk : Hid (Fr W0 wr B b lk) := by unfold Hid; rw [hlk]; exact HW.out
      have HP1 : Hid (∀ w, Fr W0 w B b lm → Calls Tryz.prog 20 #[.pointer (some ⟨b, 0, none⟩), .string (nb ++ ⟨#[32, 58, 61, 32]⟩)] w fun e w' => (∃ v, e = .returned v) ∧ Fr W0 w' B b (lm ++ (x.name ++ [32, 58, 61, 32]))) := fun w hw =>
        hw.str _ _ hnc (by simp only [List.length_append] at hlmt ⊢; omega)
      have HP2 : Hid (∀ w, Fr W0 w B b (lm ++ (x.name ++ [32, 58, 61, 32])) → Calls Tryz.prog 38 #[.pointer (some ⟨b, 0, none⟩), .pointer (some ⟨b', p' + k * 9 + 1, none⟩)] w fun e w' => e = .returned (.tuple #[]) ∧ Fr W0 w' B b (l3 ++ joinC ((r.do_.map asgT).take (k + 1)))) := fun w hw => by
        rw [hend]; exact hw.ex HGG.out hex hwr hlmt
      have HNM : Hid (∀ w l, Fr W0 w B b l → w.cell? ⟨b', p' + k * 9, none⟩ = some (.string nb)) := fun w l hw => hw.cell hb' hn
      have HP0 : Hid (0 < k → Calls Tryz.prog 20 #[.pointer (some ⟨b, 0, none⟩), .string ⟨#[44, 32]⟩] wr fun e w' => (∃ v, e = .returned v) ∧ Fr W0 w' B b lm) := fun h0 => by
        have he : lm = lk ++ [44, 32] := by rw [hlm, if_pos h0]
        rw [he]
        rw [he] at hlmt
        exact HWk.out.str ⟨#[44, 32]⟩ [44, 32] rfl (by simp only [List.length_append] at hlmt ⊢; omega)
      have HLM : Hid (¬ 0 < k → lm = lk) := fun h0 => by rw [hlm, if_neg h0]
      clear hx hn hex hwr hjk hjl hnb hasg hsz hnc hlk hlm hk0e hend hlmt HW
      by_cases h0 : 0 < k
      · have u1 : decide ((0 : Int) < (k : Int)) = true := decide_eq_true (by omega)
        have u2 : decide (0 < k) = true := decide_eq_true h0
        have HP0 := Lib.hid (HP0.out h0)
        go_wp2_with fail
        refine HP0.out.mono ?_
        rintro e w4 ⟨⟨v4, rfl⟩, hF4⟩
        have s6 := HSL.out w4 _ hF4
        have sn := HNM.out w4 _ hF4
        have HC5 := Lib.hid (HP1.out w4 hF4)
        clear hF4 HP0
        go_wp2_with fail
        refine HC5.out.mono ?_
        rintro e w5 ⟨⟨v5, rfl⟩, hF5⟩
        have s6 := HSL.out w5 _ hF5
        have HC6 := Lib.hid (HP2.out w5 hF5)
        clear hF5 HC5 sn
        go_wp2_with fail
        refine HC6.out.mono ?_
        rintro e w6 ⟨rfl, hF6⟩
        have HF6 := Lib.hid hF6
        clear hF6 HC6
        go_wp2_with fail
        go_roundw
        case rel => exact ⟨k + 1, by omega, by go_num, HF6.out⟩
        case measure => simp [intOf]; omega
      · have u1 : decide ((0 : Int) < (k : Int)) = false := decide_eq_false (by omega)
        have u2 : decide (0 < k) = false := decide_eq_false h0
        have hlmk := HLM.out h0
        have HWm : Hid (Fr W0 wr B b lm) := by unfold Hid; rw [hlmk]; exact HWk.out
        have s6 := HSL.out wr _ HWk.out
        have sn := HNM.out wr _ HWk.out
        have HC5 := Lib.hid (HP1.out wr HWm.out)
        clear hlmk
        go_wp2_with fail
        refine HC5.out.mono ?_
        rintro e w5 ⟨⟨v5, rfl⟩, hF5⟩
        have s6 := HSL.out w5 _ hF5
        have HC6 := Lib.hid (HP2.out w5 hF5)
        clear hF5 HC5 sn
        go_wp2_with fail
        refine HC6.out.mono ?_
        rintro e w6 ⟨rfl, hF6⟩
        have HF6 := Lib.hid hF6
        clear hF6 HC6
        go_wp2_with fail
        go_roundw
        case rel => exact ⟨k + 1, by omega, by go_num, HF6.out⟩
        case measure => simp [intOf]; omega
    · have t1 : decide ((k : Int) < (m : Int)) = false := decide_eq_false (by omega)
      have t2 : decide (k < m) = false := decide_eq_false hlt
      have hkm : k = m := by omega
      have hw := HW.out
      rw [hkm, HJn.out] at hw
      have hl2 := HJL.out m
      rw [HJn.out] at hl2
      have HC7 := Lib.hid (hw.str ⟨#[59, 10]⟩ [59, 10] rfl (by simp only [List.length_append, List.length_cons, List.length_nil]; omega))
      clear hw hl2 hkm
      go_wp2_with fail
      refine HC7.out.mono ?_
      rintro e w7 ⟨⟨v7, rfl⟩, hF7⟩
      have HF7 := Lib.hid hF7
      clear hF7 HC7
      go_wp2_with fail
      go_end0
      exact ⟨rfl, HF7.out⟩
end Go.Proofs.YtnlepdkbcjjkdaaGreatDoor
