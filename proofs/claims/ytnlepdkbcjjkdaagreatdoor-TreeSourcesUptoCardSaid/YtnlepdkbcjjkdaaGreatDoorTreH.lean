/- Package tree: write, inBrackets, Expr. -/
import Derived.Test.YtnlepdkbcjjkdaaGreatDoorTreG
import Derived.Test.YtnlepdkbcjjkdaaGreatDoorTreS
namespace Go.Proofs.YtnlepdkbcjjkdaaGreatDoor
open Go.RowKit TreM WrdM

theorem mk_list (s : ByteArray) : (⟨s.data.toList.toArray⟩ : ByteArray) = s := by cases s; simp
theorem writeString_b (B b : Nat) (l : List UInt8) (s : ByteArray) (t : List UInt8) (w : World) (ht : s = ⟨t.toArray⟩) (h : BldAt B b l w) (hBw : B ≤ w.heap.size) (hlen : l.length + t.length ≤ 140737488355328) :
    Calls Tryz.prog 20 #[.pointer (some ⟨b, 0, none⟩), .string s] w fun e w' => (∃ v, e = .returned v) ∧ BldAt B b (l ++ t) w' ∧ Below B w w' := by
  subst ht
  exact writeString_any B b l t w h hBw hlen

/-- How an expression is written into a builder. -/
def WrOk (X : Ex) : Prop := ∀ (W0 w : World) (B b : Nat) (l : List UInt8) (bx px : Nat), TrG W0 → ExP W0 bx px X → Below W0.heap.size W0 w → W0.heap.size ≤ B → BldAt B b l w → B ≤ w.heap.size → TreM.shape X = true → l.length + (text X).length ≤ 140737488355328 →
  Calls Tryz.prog 38 #[.pointer (some ⟨b, 0, none⟩), .pointer (some ⟨bx, px, none⟩)] w fun e w' => e = .returned (.tuple #[]) ∧ BldAt B b (l ++ text X) w' ∧ Below B w w'
def InOk (X : Ex) : Prop := ∀ (W0 w : World) (B b : Nat) (l : List UInt8) (bx px : Nat), TrG W0 → ExP W0 bx px X → Below W0.heap.size W0 w → W0.heap.size ≤ B → BldAt B b l w → B ≤ w.heap.size → TreM.shape X = true → l.length + (inner X).length ≤ 140737488355328 →
  Calls Tryz.prog 74 #[.pointer (some ⟨b, 0, none⟩), .pointer (some ⟨bx, px, none⟩)] w fun e w' => e = .returned (.tuple #[]) ∧ BldAt B b (l ++ inner X) w' ∧ Below B w w'
theorem below_on {W0 w w' : World} {B : Nat} (h : Below W0.heap.size W0 w) (hb : Below B w w') (hB : W0.heap.size ≤ B) : Below W0.heap.size W0 w' := h.trans (hb.mono hB)

set_option maxHeartbeats 1600000 in
theorem in_of {X : Ex} (hw : WrOk X) : InOk X := by
  intro W0 w B b l bx px hG hX h0 hB hb hBw hs hl
  have hXw := hX.below h0 hX.lt
  cases X with
  | mk o n s ks lL cC =>
  obtain ⟨A, cap, h6, hBd, hK⟩ := hXw.open
  obtain ⟨c0, c1, c2, c3, c4, c5⟩ := h6
  have hI := inner_eq (.mk o n s ks lL cC)
  rw [show (Ex.mk o n s ks lL cC).kids = ks from rfl] at hI
  by_cases hk : ks = []
  · have hI2 : inner (.mk o n s ks lL cC) = text (.mk o n s ks lL cC) := by rw [hI, if_pos (by rw [hk]; rfl)]
    rw [hI2] at hl ⊢
    have HC := Lib.hid (hw W0 w B b l bx px hG hX h0 hB hb hBw hs hl)
    have hm : ks.length = 0 := by rw [hk]; rfl
    rw [hm] at c3
    generalize text (.mk o n s ks lL cC) = tx at *
    clear hI hI2 hK hBd hw hX hXw hs hk hm
    go_enter Tryz.func74, Tryz.ntmps74
    go_wp2_with (refine HC.out.mono ?_; rintro e w' ⟨rfl, hb1, hB1⟩)
    (try simp only [Exit.inBlock, Exit.then])
    refine bodyPost_ret (results_none rfl _ _ _) rfl ?_
    exact ⟨rfl, hb1, hB1⟩
  · have hne : ks.length ≠ 0 := fun e => hk (List.length_eq_zero_iff.1 e)
    have hI2 : inner (.mk o n s ks lL cC) = [40] ++ text (.mk o n s ks lL cC) ++ [41] := by rw [hI, if_neg (by rw [List.isEmpty_iff]; exact hk)]
    rw [hI2] at hl ⊢
    have tk : ((ks.length : Int) == 0) = false := by rw [beq_eq_false_iff_ne]; omega
    simp only [List.length_append, List.length_cons, List.length_nil] at hl
    have HW1 := Lib.hid (writeByte_any B b l 40 w hb hBw (by omega))
    have HW : Hid (∀ w', BldAt B b (l ++ [40]) w' → Below B w w' → Calls Tryz.prog 38 #[.pointer (some ⟨b, 0, none⟩), .pointer (some ⟨bx, px, none⟩)] w' fun e w'' => e = .returned (.tuple #[]) ∧ BldAt B b (l ++ [40] ++ text (.mk o n s ks lL cC)) w'' ∧ Below B w' w'') := fun w' hb' hB' =>
      hw W0 w' B b (l ++ [40]) bx px hG hX (below_on h0 hB' hB) hB hb' (Nat.le_trans hBw hB'.size) hs (by simp only [List.length_append, List.length_cons, List.length_nil]; omega)
    have HW2 : Hid (∀ w', BldAt B b (l ++ [40] ++ text (.mk o n s ks lL cC)) w' → Below B w w' → Calls Tryz.prog 103 #[.pointer (some ⟨b, 0, none⟩), .int .u8 41] w' fun e w'' => (∃ v, e = .returned v) ∧ BldAt B b (l ++ [40] ++ text (.mk o n s ks lL cC) ++ [41]) w'' ∧ Below B w' w'') := fun w' hb' hB' =>
      writeByte_any B b _ 41 w' hb' (Nat.le_trans hBw hB'.size) (by simp only [List.length_append, List.length_cons, List.length_nil]; omega)
    have HE : Hid (l ++ [40] ++ text (.mk o n s ks lL cC) ++ [41] = l ++ ([40] ++ text (.mk o n s ks lL cC) ++ [41])) := by unfold Hid; simp
    generalize text (.mk o n s ks lL cC) = tx at *
    generalize ks.length = m at *
    clear hI hI2 hK hBd hw hX hXw hs hk
    go_enter Tryz.func74, Tryz.ntmps74
    go_wp2_with fail
    refine HW1.out.mono ?_
    rintro e w1 ⟨⟨v, rfl⟩, hb1, hB1⟩
    have HC := Lib.hid (HW.out w1 hb1 hB1)
    have HB1 := Lib.hid hB1
    clear hb1 hB1
    go_wp2_with fail
    refine HC.out.mono ?_
    rintro e w2 ⟨rfl, hb2, hB2⟩
    have HB2 := Lib.hid (HB1.out.trans hB2)
    have HC2 := Lib.hid (HW2.out w2 hb2 HB2.out)
    clear hb2 hB2 HC
    go_wp2_with fail
    refine HC2.out.mono ?_
    rintro e w3 ⟨⟨v3, rfl⟩, hb3, hB3⟩
    rw [HE.out] at hb3
    have HB3 := Lib.hid (HB2.out.trans hB3)
    have Hb3 := Lib.hid hb3
    clear hb3 hB3 HC2
    go_wp2_with fail
    go_end0
    exact ⟨rfl, Hb3.out, HB3.out⟩

theorem kidsC_of {o n : Int} {s : List UInt8} {m : Nat} (h : ownB o n s m = true) : m = kidsC o := by
  rw [own_eq] at h
  simp only [Bool.and_eq_true, decide_eq_true_eq] at h
  exact h.2.2.1
theorem two_of {ks : List Ex} (h : ks.length = 2) : ∃ x y, ks = [x, y] := by
  match ks, h with
  | [x, y], _ => exact ⟨x, y, rfl⟩
theorem text_zero (o n : Int) (s : List UInt8) (l c : Int) : text (.mk o n s [] l c) = textK o n s [] := by rw [text]
theorem text_one (o n : Int) (s : List UInt8) (x : Ex) (l c : Int) : text (.mk o n s [x] l c) = aheadE o ++ inner x := by
  rw [text, textK]
  unfold aheadE
  split <;> simp
theorem text_two (o n : Int) (s : List UInt8) (x y : Ex) (l c : Int) : text (.mk o n s [x, y] l c) = inner x ++ ([32] ++ signE o ++ [32]) ++ inner y := by
  rw [text, textK]
  simp

set_option maxHeartbeats 3200000 in
theorem write_ok : ∀ X : Ex, WrOk X := by
  apply Ex.ind (P := WrOk)
  intro o n s ks lL cC ih W0 w B b l bx px hG hX h0 hB hb hBw hs hl
  have hXw := hX.below h0 hX.lt
  obtain ⟨A0, cap0, g6, gB, gK⟩ := hX.open
  obtain ⟨A, cap, h6, hBd, hK⟩ := hXw.open
  have hA : A = A0 ∧ cap = cap0 := by
    have := h6.c3.symm.trans ((h0.cell (p := ⟨bx, px + 3, none⟩) hX.lt).trans g6.c3)
    simp only [Option.some.injEq, Value.slice.injEq, true_and] at this
    exact this
  obtain ⟨rfl, rfl⟩ := hA
  have hs' := hs
  rw [TreM.shape, Bool.and_eq_true] at hs'
  have hkc := kidsC_of hs'.1
  have hsk := (shapeL_mem ks).1 hs'.2
  have HG : Hid (∀ w', Below B w w' → TrG w') := fun w' hb' => hG.below (below_on h0 hb' hB) hG.n
  have HX : Hid (∀ w', Below B w w' → Ex6 w' bx px o n s A ks.length cap lL cC) := fun w' hb' => by
    have hq := below_on h0 hb' hB
    have hk : ∀ i, w'.cell? ⟨bx, px + i, none⟩ = W0.cell? ⟨bx, px + i, none⟩ := fun i => hq.cell (p := ⟨bx, px + i, none⟩) hX.lt
    exact ⟨(hk 0).trans g6.c0, (hk 1).trans g6.c1, (hk 2).trans g6.c2, (hk 3).trans g6.c3, (hk 4).trans g6.c4, (hk 5).trans g6.c5⟩
  have HK := Lib.hid (kids_any o)
  have HI : Hid (∀ k ∈ ks, InOk k) := fun k hk => in_of (ih k hk)
  have hcap := hBd.cap
  have hmc := hBd.m
  rcases hk3 : kidsC o with _ | _ | kk
  · have hks : ks = [] := List.length_eq_zero_iff.1 (by omega)
    subst hks
    rw [text_zero] at hl ⊢
    have HL := Lib.hid (leaf_any h6 hBd (HG.out w (Below.refl _ _)))
    have HW : Hid (∀ w', Below w.heap.size w w' → Calls Tryz.prog 20 #[.pointer (some ⟨b, 0, none⟩), .string ⟨(textK o n s []).toArray⟩] w' fun e w'' => (∃ v, e = .returned v) ∧ BldAt B b (l ++ textK o n s []) w'' ∧ Below B w' w'') := fun w' hb' =>
      writeString_b B b l _ _ w' rfl (hb.below hb') (Nat.le_trans hBw hb'.size) hl
    obtain ⟨c0, c1, c2, c3, c4, c5⟩ := h6
    rw [hk3] at HK
    generalize textK o n s [] = tx at *
    generalize (⟨tx.toArray⟩ : ByteArray) = tb at *
    clear ih hX hXw g6 gB gK hBd hK hs hs' hsk hkc HG HX HI hk3 hb
    go_enter Tryz.func38, Tryz.ntmps38
    go_wp2_with fail
    refine (HK.out _).mono ?_
    rintro e w1 ⟨rfl, rfl⟩
    go_wp2_with fail
    refine HL.out.mono ?_
    rintro e w2 ⟨rfl, hB2⟩
    have HC := Lib.hid (HW.out w2 hB2)
    have HB2 := Lib.hid (hB2.mono hBw)
    clear hB2
    go_wp2_with fail
    refine HC.out.mono ?_
    rintro e w3 ⟨⟨v3, rfl⟩, hb3, hB3⟩
    have HB3 := Lib.hid (HB2.out.trans hB3)
    have Hb3 := Lib.hid hb3
    clear hb3 hB3 HC
    go_wp2_with fail
    go_end0
    exact ⟨rfl, Hb3.out, HB3.out⟩
  · obtain ⟨x, rfl⟩ : ∃ x, ks = [x] := List.length_eq_one_iff.1 (by omega)
    rw [text_one] at hl ⊢
    rw [List.length_append] at hl
    have h5 : 5 ≤ o := by
      unfold kidsC at hk3
      split at hk3
      · omega
      · split at hk3
        · assumption
        · omega
    rcases gK with gK | ⟨b', p', rfl, hb', hk'⟩
    · cases gK
    have hx' := hk' 0 x rfl
    have HA := Lib.hid (ahead_any o w (HG.out w (Below.refl _ _)) h5)
    have HW : Hid (Calls Tryz.prog 20 #[.pointer (some ⟨b, 0, none⟩), .string ⟨(aheadE o).toArray⟩] w fun e w'' => (∃ v, e = .returned v) ∧ BldAt B b (l ++ aheadE o) w'' ∧ Below B w w'') :=
      writeString_b B b l _ _ w rfl hb hBw (by omega)
    have HN : Hid (∀ w', BldAt B b (l ++ aheadE o) w' → Below B w w' → Calls Tryz.prog 74 #[.pointer (some ⟨b, 0, none⟩), .pointer (some ⟨b', p', none⟩)] w' fun e w'' => e = .returned (.tuple #[]) ∧ BldAt B b (l ++ aheadE o ++ inner x) w'' ∧ Below B w' w'') := fun w' hb' hB' =>
      HI.out x (by simp) W0 w' B b _ b' p' hG (by simpa using hx') (below_on h0 hB' hB) hB hb' (Nat.le_trans hBw hB'.size) (hsk x (by simp)) (by rw [List.length_append]; omega)
    have HE : Hid (l ++ aheadE o ++ inner x = l ++ (aheadE o ++ inner x)) := by unfold Hid; simp
    obtain ⟨c0, c1, c2, c3, c4, c5⟩ := h6
    have c3' : w.cell? ⟨bx, px + 3, none⟩ = some (.slice (some ⟨b', p', none⟩) 1 cap) := c3
    rw [hk3] at HK
    have HX2 : Hid (∀ w', Below B w w' → w'.cell? ⟨bx, px + 3, none⟩ = some (.slice (some ⟨b', p', none⟩) 1 cap)) := fun w' hb' => (HX.out w' hb').c3
    have hmc' : 1 ≤ cap := hmc
    generalize inner x = tx at *
    generalize aheadE o = ta at *
    generalize (⟨ta.toArray⟩ : ByteArray) = tb at *
    clear ih hX hXw g6 gB hBd hK hs hs' hsk hkc HG HX HI hk3 hb c3 h5 hx' hk'
    go_enter Tryz.func38, Tryz.ntmps38
    go_wp2_with fail
    refine (HK.out _).mono ?_
    rintro e w1 ⟨rfl, rfl⟩
    go_wp2_with fail
    refine HA.out.mono ?_
    rintro e w1 ⟨rfl, rfl⟩
    go_wp2_with fail
    refine HW.out.mono ?_
    rintro e w2 ⟨⟨v2, rfl⟩, hb2, hB2⟩
    have HC := Lib.hid (HN.out w2 hb2 hB2)
    have HB2 := Lib.hid hB2
    have d3 := HX2.out w2 hB2
    clear hb2 hB2
    go_wp2_with fail
    refine HC.out.mono ?_
    rintro e w3 ⟨rfl, hb3, hB3⟩
    rw [HE.out] at hb3
    have HB3 := Lib.hid (HB2.out.trans hB3)
    have Hb3 := Lib.hid hb3
    clear hb3 hB3 HC
    go_wp2_with fail
    go_end0
    exact ⟨rfl, Hb3.out, HB3.out⟩
  · have hk4 : kk = 0 := by
      unfold kidsC at hk3
      split at hk3
      · omega
      · split at hk3 <;> omega
    subst hk4
    obtain ⟨x, y, rfl⟩ : ∃ x y, ks = [x, y] := two_of (by omega)
    rw [text_two] at hl ⊢
    simp only [List.length_append, List.length_cons, List.length_nil] at hl
    rcases gK with gK | ⟨b', p', rfl, hb', hk'⟩
    · cases gK
    have hx' := hk' 0 x rfl
    have hy' := hk' 1 y rfl
    have HN : Hid (Calls Tryz.prog 74 #[.pointer (some ⟨b, 0, none⟩), .pointer (some ⟨b', p', none⟩)] w fun e w'' => e = .returned (.tuple #[]) ∧ BldAt B b (l ++ inner x) w'' ∧ Below B w w'') :=
      HI.out x (by simp) W0 w B b _ b' p' hG (by simpa using hx') h0 hB hb hBw (hsk x (by simp)) (by omega)
    have HS : Hid (∀ w', Below B w w' → Calls Tryz.prog 13 #[.int .i64 o] w' fun e w'' => e = .returned (.string ⟨(signE o).toArray⟩) ∧ w' = w'') := fun w' hb' => sign_any o w' (HG.out w' hb')
    have hl3 : (⟨(signE o).toArray⟩ : ByteArray).size ≤ 3 := by rw [size_mk]; exact signE_len o
    have HTB : Hid (∀ sb : ByteArray, sb = ⟨(signE o).toArray⟩ → (⟨#[32]⟩ : ByteArray) ++ sb ++ ⟨#[32]⟩ = ⟨([32] ++ signE o ++ [32]).toArray⟩) := fun sb hs => by
      rw [hs, ← app_mk, ← app_mk]
    have HW : Hid (∀ (w' : World) (tb : ByteArray), tb = ⟨([32] ++ signE o ++ [32]).toArray⟩ → BldAt B b (l ++ inner x) w' → Below B w w' → Calls Tryz.prog 20 #[.pointer (some ⟨b, 0, none⟩), .string tb] w' fun e w'' => (∃ v, e = .returned v) ∧ BldAt B b (l ++ inner x ++ ([32] ++ signE o ++ [32])) w'' ∧ Below B w' w'') := fun w' tb ht hb' hB' =>
      writeString_b B b _ _ _ w' ht hb' (Nat.le_trans hBw hB'.size) (by simp only [List.length_append, List.length_cons, List.length_nil]; omega)
    have HM : Hid (∀ w', BldAt B b (l ++ inner x ++ ([32] ++ signE o ++ [32])) w' → Below B w w' → Calls Tryz.prog 74 #[.pointer (some ⟨b, 0, none⟩), .pointer (some ⟨b', p' + 6, none⟩)] w' fun e w'' => e = .returned (.tuple #[]) ∧ BldAt B b (l ++ inner x ++ ([32] ++ signE o ++ [32]) ++ inner y) w'' ∧ Below B w' w'') := fun w' hb' hB' =>
      HI.out y (by simp) W0 w' B b _ b' (p' + 6) hG (by simpa using hy') (below_on h0 hB' hB) hB hb' (Nat.le_trans hBw hB'.size) (hsk y (by simp)) (by simp only [List.length_append, List.length_cons, List.length_nil]; omega)
    have HE : Hid (l ++ inner x ++ ([32] ++ signE o ++ [32]) ++ inner y = l ++ (inner x ++ ([32] ++ signE o ++ [32]) ++ inner y)) := by unfold Hid; simp
    obtain ⟨c0, c1, c2, c3, c4, c5⟩ := h6
    have c3' : w.cell? ⟨bx, px + 3, none⟩ = some (.slice (some ⟨b', p', none⟩) 2 cap) := c3
    rw [hk3] at HK
    have HX2 : Hid (∀ w', Below B w w' → w'.cell? ⟨bx, px + 3, none⟩ = some (.slice (some ⟨b', p', none⟩) 2 cap) ∧ w'.cell? ⟨bx, px, none⟩ = some (.int .i64 o)) := fun w' hb' => ⟨(HX.out w' hb').c3, (HX.out w' hb').c0⟩
    have hmc' : 2 ≤ cap := hmc
    obtain ⟨ts, hts⟩ : ∃ ts, ts = [32] ++ signE o ++ [32] := ⟨_, rfl⟩
    rw [← hts] at HTB HW HM HE ⊢
    obtain ⟨sb, hsb⟩ : ∃ sb : ByteArray, sb = ⟨(signE o).toArray⟩ := ⟨_, rfl⟩
    have HT2 := Lib.hid (HTB.out sb hsb)
    rw [← hsb] at HS hl3
    generalize inner x = tx at *
    generalize inner y = ty at *
    have z1 : ¬ 9223372036854775807 < 1 + sb.size := by omega
    have z2 : ¬ 9223372036854775807 < 1 + sb.size + 1 := by omega
    clear ih hX hXw g6 gB hBd hK hs hs' hsk hkc HG HX HI hk3 hb c3 hx' hy' hk' HTB hts hsb hl3
    go_enter Tryz.func38, Tryz.ntmps38
    go_wp2_with fail
    refine (HK.out _).mono ?_
    rintro e w1 ⟨rfl, rfl⟩
    go_wp2_with fail
    refine HN.out.mono ?_
    rintro e w2 ⟨rfl, hb2, hB2⟩
    have Hb2 := Lib.hid hb2
    have HB2 := Lib.hid hB2
    have HC := Lib.hid (HS.out w2 hB2)
    obtain ⟨d3, d0⟩ := HX2.out w2 hB2
    clear hb2 hB2
    go_wp2_with fail
    refine HC.out.mono ?_
    rintro e w1 ⟨rfl, rfl⟩
    have HC2 := Lib.hid (HW.out w2 _ HT2.out Hb2.out HB2.out)
    go_wp2_with fail
    refine HC2.out.mono ?_
    rintro e w3 ⟨⟨v3, rfl⟩, hb3, hB3⟩
    have HB3 := Lib.hid (HB2.out.trans hB3)
    have HC3 := Lib.hid (HM.out w3 hb3 HB3.out)
    obtain ⟨e3, e0⟩ := HX2.out w3 HB3.out
    clear hb3 hB3 HC HC2
    go_wp2_with fail
    refine HC3.out.mono ?_
    rintro e w4 ⟨rfl, hb4, hB4⟩
    rw [HE.out] at hb4
    have HB4 := Lib.hid (HB3.out.trans hB4)
    have Hb4 := Lib.hid hb4
    clear hb4 hB4 HC3
    go_wp2_with fail
    go_end0
    exact ⟨rfl, Hb4.out, HB4.out⟩

/-- An expression as a text. -/
theorem expr_any (X : Ex) (v : Value) (w : World) (hG : TrG w) (h : ExV w X v) (hl : writB X = true → (text X).length ≤ 140737488355328) :
    Calls Tryz.prog 10 #[v] w fun e w' => e = .returned (if writB X then .tuple #[.string ⟨(text X).toArray⟩, .int .i64 0] else .tuple #[.string ⟨#[]⟩, .int .i64 141]) ∧ Below w.heap.size w w' := by
  cases X with
  | mk o n s ks l c =>
  obtain ⟨A, cap, rfl, hB, hK⟩ := h.open
  have hba := below_alloc w (.cells #[.int .i64 o, .int .i64 n, .string ⟨s.toArray⟩, .slice A ks.length cap, .int .i64 l, .int .i64 c] 40)
  have hbox := box_alloc h
  have HC := Lib.hid (writable_any _ w.heap.size 0 _ hbox)
  rcases hwr : writB (.mk o n s ks l c) with _ | _
  · rw [hwr] at HC
    have HBA := Lib.hid hba
    rw [if_neg (by decide)]
    clear hwr hl h hB hK hbox hba
    generalize ks.length = m at *
    generalize (⟨s.toArray⟩ : ByteArray) = sb at *
    go_enter Tryz.func10, Tryz.ntmps10
    go_wp2_with (refine HC.out.mono ?_; rintro e w' ⟨rfl, hB1⟩)
    go_ret2
    exact ⟨rfl, HBA.out.trans (hB1.mono HBA.out.size)⟩
  · rw [hwr] at HC
    have hlen := hl hwr
    have hsh := writ_shape hwr
    rw [if_pos rfl]
    have hG2 : TrG (w.alloc (.cells #[.int .i64 o, .int .i64 n, .string ⟨s.toArray⟩, .slice A ks.length cap, .int .i64 l, .int .i64 c] 40)) := hG.below hba hG.n
    have HBA := Lib.hid hba
    have HW : Hid (∀ w1, Below (w.alloc (.cells #[.int .i64 o, .int .i64 n, .string ⟨s.toArray⟩, .slice A ks.length cap, .int .i64 l, .int .i64 c] 40)).heap.size (w.alloc (.cells #[.int .i64 o, .int .i64 n, .string ⟨s.toArray⟩, .slice A ks.length cap, .int .i64 l, .int .i64 c] 40)) w1 →
        Calls Tryz.prog 38 #[.pointer (some ⟨w1.heap.size, 0, none⟩), .pointer (some ⟨w.heap.size, 0, none⟩)] (w1.alloc (.cells #[.pointer none, .slice none 0 0] 59)) fun e w' => e = .returned (.tuple #[]) ∧ BldAt w1.heap.size w1.heap.size (text (.mk o n s ks l c)) w' ∧ Below w1.heap.size w1 w') := fun w1 hb1 => by
      have hal := below_alloc w1 (.cells #[.pointer none, .slice none 0 0] 59)
      have := write_ok (.mk o n s ks l c) _ (w1.alloc (.cells #[.pointer none, .slice none 0 0] 59)) w1.heap.size w1.heap.size [] w.heap.size 0 hG2 hbox (hb1.trans (hal.mono hb1.size)) hb1.size (BldAt.fresh w1) hal.size hsh (by simpa using hlen)
      exact this.mono fun e w' ⟨h1, h2, h3⟩ => ⟨h1, by simpa using h2, hal.trans h3⟩
    clear hwr hl h hB hK hbox hba hG2 hsh hlen
    generalize text (.mk o n s ks l c) = tx at *
    generalize ks.length = m at *
    generalize (⟨s.toArray⟩ : ByteArray) = sb at *
    go_enter Tryz.func10, Tryz.ntmps10
    go_wp2_with fail
    refine HC.out.mono ?_
    rintro e w1 ⟨rfl, hB1⟩
    have HC1 := Lib.hid (HW.out w1 hB1)
    have HB1 := Lib.hid (HBA.out.trans (hB1.mono HBA.out.size))
    clear hB1 HC HW
    go_wp2_with fail
    refine HC1.out.mono ?_
    rintro e w2 ⟨rfl, hb2, hB2⟩
    have HB2 := Lib.hid (HB1.out.trans (hB2.mono HB1.out.size))
    have HS := Lib.hid (string_any w1.heap.size w1.heap.size tx w2 hb2 hB2.size)
    have HZ := Lib.hid hB2.size
    have HZ1 := Lib.hid HB1.out.size
    clear hb2 hB2 HC1
    go_wp2_with fail
    refine HS.out.mono ?_
    rintro e w3 ⟨rfl, hB3⟩
    have HB3 := Lib.hid (HB2.out.trans (hB3.mono (Nat.le_trans HB1.out.size (Nat.le_refl _))))
    clear hB3
    go_wp2_with fail
    go_ret2
    exact ⟨rfl, HB3.out⟩
end Go.Proofs.YtnlepdkbcjjkdaaGreatDoor
