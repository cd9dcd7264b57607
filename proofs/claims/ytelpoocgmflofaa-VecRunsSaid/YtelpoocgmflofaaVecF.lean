/- What every operation on numbers begins with: do the bits fit, are all edges there. -/
import Derived.Test.YtelpoocgmflofaaVecE
namespace Go.Proofs.Ytelpoocgmflofaa
open Go.RowKit GatM VecM

def fitN (n : Nat) : Prop := 1 ≤ n ∧ n ≤ 32
instance (n : Nat) : Decidable (fitN n) := inferInstanceAs (Decidable (1 ≤ n ∧ n ≤ 32))
theorem vfits_any (n : Nat) (w : World) : Calls Try.prog 36 #[.int .i64 (n : Int)] w fun e w' => e = .returned (.bool (decide (fitN n))) ∧ w = w' := by
  by_cases h1 : 1 ≤ n
  · have t1 : decide ((1 : Int) ≤ (n : Int)) = true := decide_eq_true (by omega)
    by_cases h2 : n ≤ 32
    · have t2 : decide ((n : Int) ≤ 32) = true := decide_eq_true (by omega)
      have e : decide (fitN n) = true := decide_eq_true ⟨h1, h2⟩
      rw [e]
      go_enter Try.func36, Try.ntmps36
      go_wp2_with fail
      go_ret
      exact ⟨rfl, rfl⟩
    · have t2 : decide ((n : Int) ≤ 32) = false := decide_eq_false (by omega)
      have e : decide (fitN n) = false := decide_eq_false fun q => h2 q.2
      rw [e]
      go_enter Try.func36, Try.ntmps36
      go_wp2_with fail
      go_ret
      exact ⟨rfl, rfl⟩
  · have t1 : decide ((1 : Int) ≤ (n : Int)) = false := decide_eq_false (by omega)
    have e : decide (fitN n) = false := decide_eq_false fun q => h1 q.1
    rw [e]
    go_enter Try.func36, Try.ntmps36
    go_wp2_with fail
    go_ret
    exact ⟨rfl, rfl⟩
/-- What begin leaves: a maker, if nothing is wrong. -/
def BegTo (w : World) (c : GrC) (v : Int) (e : Ending) (w' : World) : Prop :=
  ∃ p, e = .returned (.tuple #[p, .int .i64 v]) ∧ Below w.heap.size w w' ∧ (v = 0 → ∃ b, p = .pointer (some ⟨b, 0, none⟩) ∧ VMk w' c b ∧ w.heap.size ≤ b) ∧ (v ≠ 0 → p = .pointer none)
set_option maxHeartbeats 3200000 in
set_option maxRecDepth 100000 in
theorem vbegin_any {w : World} {c : GrC} {gs mp : Gs} {ins : List Nat} (h : GrAt w c gs ins mp) (wd q nb : Nat) (A : Nat → Option Addr) (n cp : Nat → Nat) (L : Nat → List Nat) (hq : q ≤ 10) (hnb : nb < w.heap.size) (hn : ∀ j, j < q → n j ≤ 1000)
    (hc : ∀ j, j < q → w.cell? ⟨nb, j, none⟩ = some (.slice (A j) (n j) (cp j))) (hl : ∀ j, j < q → RdN .u32 w w.heap.size (A j) (n j) (L j)) (hs : ∀ j, j < q → Sml (L j))
    (v : Int) (h1 : (∀ j, j < q → fitN (n j)) → fitN wd → (∀ j, j < q → AllIn gs (L j)) → v = 0) (h2 : (∀ j, j < q → fitN (n j)) → fitN wd → (∃ j, j < q ∧ ∃ i, i < n j ∧ ¬ (L j).getD i 0 / 2 < gs.length) → v = 101) (h3 : (∃ j, j < q ∧ ¬ fitN (n j)) ∨ ((∀ j, j < q → fitN (n j)) ∧ ¬ fitN wd) → v = 111) :
    Calls Try.prog 33 #[.pointer (some ⟨c.bg, 0, none⟩), .int .i64 (wd : Int), .slice (some ⟨nb, 0, none⟩) q q] w (BegTo w c v) := by
  have HG := Lib.hid h
  have HN := Lib.hid hn
  have HC := Lib.hid hc
  have HL := Lib.hid hl
  have HS := Lib.hid hs
  have H1 := Lib.hid h1
  have H2 := Lib.hid h2
  have H3 := Lib.hid h3
  clear h hn hc hl hs h1 h2 h3
  go_enter Try.func33, Try.ntmps33
  go_wp2_with fail
  go_loopw [18] (fun i wr => ∃ k : Nat, i = .int .i64 (k : Int) ∧ k ≤ q ∧ Hid (∀ j, j < k → fitN (n j)) ∧ w = wr) (fun i _ => q - (intOf i).toNat)
  case atStart => exact ⟨0, rfl, Nat.zero_le _, Lib.hid fun j hj => absurd hj (Nat.not_lt_zero j), rfl⟩
  case round =>
    obtain ⟨k, rfl, hk, hall, rfl⟩ := hrel
    by_cases hlt : k < q
    · have tk : decide ((k : Int) < (q : Int)) = true := decide_eq_true (by omega)
      have tk2 : decide (k < q) = true := decide_eq_true hlt
      have tk3 : decide ((q : Int) ≤ (k : Int)) = false := decide_eq_false (by omega)
      have x0 := HC.out k hlt
      by_cases hf : fitN (n k)
      · have HF := Lib.hid (vfits_any (n k) w)
        rw [decide_eq_true hf] at HF
        have HA : Hid (∀ j, j < k + 1 → fitN (n j)) := fun j hj => by
          by_cases e : j = k
          · rw [e]; exact hf
          · exact hall.out j (by omega)
        clear hf hall
        generalize n k = nk at *
        generalize A k = Ak at *
        generalize cp k = ck at *
        go_wp2_with fail
        refine HF.out.mono ?_
        rintro e w' ⟨rfl, rfl⟩
        go_wp2_with fail
        go_roundw
        case rel => exact ⟨k + 1, by go_num, by omega, HA, trivial⟩
        case measure => simp [intOf]; omega
      · have HF := Lib.hid (vfits_any (n k) w)
        rw [decide_eq_false hf] at HF
        obtain rfl := H3.out (.inl ⟨k, hlt, hf⟩)
        clear hf hall
        generalize n k = nk at *
        generalize A k = Ak at *
        generalize cp k = ck at *
        go_wp2_with fail
        refine HF.out.mono ?_
        rintro e w' ⟨rfl, rfl⟩
        go_wp2_with fail
        go_ret2
        exact ⟨_, rfl, Below.refl _ _, fun e => absurd e (by decide), fun _ => rfl⟩
    · have tk : decide ((k : Int) < (q : Int)) = false := decide_eq_false (by omega)
      have tk2 : decide (k < q) = false := decide_eq_false hlt
      obtain rfl : k = q := by omega
      go_upto_region 7 with (fail)
      by_cases hf : fitN wd
      case neg =>
        have HF := Lib.hid (vfits_any wd w)
        rw [decide_eq_false hf] at HF
        obtain rfl := H3.out (.inr ⟨hall.out, hf⟩)
        clear hf hall
        go_wp2_with fail
        refine HF.out.mono ?_
        rintro e w' ⟨rfl, rfl⟩
        go_wp2_with fail
        go_ret2
        exact ⟨_, rfl, Below.refl _ _, fun e => absurd e (by decide), fun _ => rfl⟩
      have HF := Lib.hid (vfits_any wd w)
      rw [decide_eq_true hf] at HF
      have HT := Lib.hid hf
      clear hf
      go_wp2_with fail
      refine HF.out.mono ?_
      rintro e w' ⟨rfl, rfl⟩
      clear HF tk tk2 hk
      go_wp2_with fail
      go_loopw [32] (fun i wr => ∃ j : Nat, i = .int .i64 (j : Int) ∧ j ≤ k ∧ Hid (∀ t, t < j → AllIn gs (L t)) ∧ Hid (Below w.heap.size w wr)) (fun i _ => k - (intOf i).toNat)
      case atStart => exact ⟨0, rfl, Nat.zero_le _, Lib.hid fun j hj => absurd hj (Nat.not_lt_zero j), Lib.hid (Below.refl _ _)⟩
      case round =>
        obtain ⟨j, rfl, hj, hin, HB⟩ := hrel
        by_cases hlt2 : j < k
        · have tj : decide ((j : Int) < (k : Int)) = true := decide_eq_true (by omega)
          have tj2 : decide (j < k) = true := decide_eq_true hlt2
          have tj3 : decide ((k : Int) ≤ (j : Int)) = false := decide_eq_false (by omega)
          have x0 := (HB.out.cell (p := ⟨nb, j, none⟩) hnb).trans (HC.out j hlt2)
          have HRD := Lib.hid (HL.out j hlt2)
          have HSM := Lib.hid (HS.out j hlt2)
          have HB2 : Hid (∀ i, i < n j → ¬ (L j).getD i 0 / 2 < gs.length → v = 101) := fun i hi hbad => H2.out hall.out HT.out ⟨j, hlt2, i, hi, hbad⟩
          have hnj := HN.out j hlt2
          have HIN : Hid ((∀ i, i < n j → (L j).getD i 0 / 2 < gs.length) → ∀ t, t < j + 1 → AllIn gs (L t)) := fun q t ht => by
            by_cases e : t = j
            · rw [e]
              intro x hx
              obtain ⟨i, hi, rfl⟩ := nmem.1 hx
              exact q i (by rw [← HRD.out.len]; exact hi)
            · exact hin.out t (by omega)
          clear hin
          generalize n j = nj at *
          generalize A j = Aj at *
          generalize cp j = cj at *
          generalize L j = l at *
          generalize wr = wo at *
          go_wp2_with fail
          go_loopw [38] (fun i wr => ∃ t : Nat, i = .int .i64 (t : Int) ∧ t ≤ nj ∧ Hid (∀ i, i < t → l.getD i 0 / 2 < gs.length) ∧ Hid (Below w.heap.size w wr)) (fun i _ => nj - (intOf i).toNat)
          case atStart => exact ⟨0, rfl, Nat.zero_le _, Lib.hid fun j hj => absurd hj (Nat.not_lt_zero j), HB⟩
          case round =>
            clear HB x0
            obtain ⟨t, rfl, ht, hok, HB⟩ := hrel
            by_cases hlt3 : t < nj
            · have tt : decide ((t : Int) < (nj : Int)) = true := decide_eq_true (by omega)
              have tt2 : decide (t < nj) = true := decide_eq_true hlt3
              have tt3 : decide ((nj : Int) ≤ (t : Int)) = false := decide_eq_false (by omega)
              obtain ⟨bx, ox, rfl, _, hcx⟩ := (HRD.out.belo HB.out).at_ (by omega)
              have y0 := hcx t hlt3
              have hsx := HSM.out t
              have HB3 := Lib.hid (HB2.out t hlt3)
              have HNT := Lib.hid (gnot_any (HG.out.below HB.out) (l.getD t 0) hsx)
              have HOK : Hid (l.getD t 0 / 2 < gs.length → ∀ i, i < t + 1 → l.getD i 0 / 2 < gs.length) := fun q i hi => by
                by_cases e : i = t
                · rw [e]; exact q
                · exact hok.out i (by omega)
              clear hcx hok hsx
              generalize l.getD t 0 = x at *
              by_cases hgood : x / 2 < gs.length
              · rw [if_pos hgood] at HNT
                have HO2 := Lib.hid (HOK.out hgood)
                clear HOK hgood HB3
                go_wp2_with fail
                refine HNT.out.mono ?_
                rintro e w' ⟨rfl, hb⟩
                have HB4 := Lib.hid (HB.out.trans (hb.mono HB.out.size))
                clear hb HNT HB y0
                go_wp2_with fail
                go_roundw
                case rel => exact ⟨t + 1, by go_num, by omega, HO2, HB4⟩
                case measure => simp [intOf]; omega
              · rw [if_neg hgood] at HNT
                obtain rfl := HB3.out hgood
                clear HOK hgood HB3
                go_wp2_with fail
                refine HNT.out.mono ?_
                rintro e w' ⟨rfl, hb⟩
                have HB4 := Lib.hid (HB.out.trans (hb.mono HB.out.size))
                clear hb HNT HB y0
                go_wp2_with fail
                go_ret2
                exact ⟨_, rfl, HB4.out, fun e => absurd e (by decide), fun _ => rfl⟩
            · have tt : decide ((t : Int) < (nj : Int)) = false := decide_eq_false (by omega)
              have tt2 : decide (t < nj) = false := decide_eq_false hlt3
              obtain rfl : t = nj := by omega
              have HO2 := Lib.hid (HIN.out hok.out)
              clear HIN hok
              go_wp2_with fail
              go_roundw
              case rel => exact ⟨j + 1, by go_num, by omega, HO2, HB⟩
              case measure => simp [intOf]; omega
        · have tj : decide ((j : Int) < (k : Int)) = false := decide_eq_false (by omega)
          have tj2 : decide (j < k) = false := decide_eq_false hlt2
          obtain rfl : j = k := by omega
          obtain rfl := H1.out hall.out HT.out hin.out
          have HE : Hid (BegTo w c 0 (.returned (.tuple #[.pointer (some ⟨wr.heap.size, 0, none⟩), .int .i64 0])) (wr.alloc (.cells #[.pointer (some ⟨c.bg, 0, none⟩), .int .i64 0] 106))) :=
            ⟨_, rfl, HB.out.alloc HB.out.size _, fun _ => ⟨wr.heap.size, rfl, ⟨blk_new _ _, fun ho => by have := HG.out.lt ho; have := HB.out.size; omega⟩, HB.out.size⟩, fun e => absurd rfl e⟩
          clear HB hin hall HG
          go_wp2_with fail
          go_ret2
          exact HE.out
end Go.Proofs.Ytelpoocgmflofaa
