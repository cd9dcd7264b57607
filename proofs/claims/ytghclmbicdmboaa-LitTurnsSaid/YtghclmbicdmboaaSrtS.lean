/- slices.Sort and slices.BinarySearch at 32-bit numbers; the contract of lit.Within. -/
import Derived.Test.YtghclmbicdmboaaSrtZ
import Derived.Test.YtghclmbicdmboaaLitD
namespace Go.Proofs.Ytghclmbicdmboaa
open Go.Shelf Go.RowKit Go.Lib Go.Sort LitM

theorem len_any (n : Nat) (hn : n ≤ 1000000) (w : World) : Calls Try.prog 30 #[.int .u64 (n : Int)] w fun e w' => e = .returned (.int .i64 ((bitsLen n : Nat) : Int)) ∧ w' = w := by
  have h := Any.bits_Len (SlLaysF0.n15.bits (P := Try.prog) Try.lenL) (n : Int) w (by omega) (by omega)
  rw [Int.toNat_natCast, bitLen_eq _ (by omega)] at h
  exact h
set_option maxHeartbeats 1600000 in
set_option maxRecDepth 100000 in
/-- slices.Sort: what is sorted is a sorted permutation. -/
theorem sort_any (blk cap : Nat) (d : Array Int) (w : World) (hH : RowAt w blk d) (hbw : blk < w.heap.size) (hz : d.size ≤ 1000000) :
    Calls Try.prog 18 #[.slice (some ⟨blk, 0, none⟩) d.size cap] w (QPost w blk 0 d.size d) := by
  have hb : bitsLen d.size ≤ 64 := (bitsLen_le_iff d.size 64).2 (by omega)
  have HC := Lib.hid (pdq_any blk cap d.size 0 d.size (bitsLen d.size) d w (by omega) hH hbw (Nat.zero_le _) (Nat.le_refl _) hz (Or.inl rfl) hb)
  have HLN := Lib.hid (len_any d.size hz)
  clear hH
  generalize hk : bitsLen d.size = k at *
  generalize d.size = N at *
  clear hk
  have su : IntKind.u64.wrap (N : Int) = (N : Int) := by rw [IntKind.wrap_u64]; omega
  go_enter Try.func18, Try.ntmps18
  go_wp2_with fail
  refine (HLN.out _).mono ?_
  rintro e w' ⟨rfl, rfl⟩
  go_wp2_with fail
  refine HC.out.mono ?_
  rintro e w2 ⟨rfl, hq⟩
  have HQ := Lib.hid hq
  clear hq HC
  go_wp2
  go_end0
  exact ⟨rfl, HQ.out⟩
theorem insort_nil (w : World) : Calls Try.prog 37 #[.slice none 0 0, .int .i64 0, .int .i64 0] w fun e w' => e = .returned (.tuple #[]) ∧ w = w' := by
  go_enter Try.func37, Try.ntmps37
  go_wp2
  go_loopw [6] (fun v W => v = .int .i64 1 ∧ w = W) (fun _ _ => 0)
  case atStart => exact ⟨rfl, rfl⟩
  case round =>
    obtain ⟨rfl, rfl⟩ := hrel
    go_wp2
    go_end0
    exact ⟨rfl, rfl⟩
theorem pdq_nil (w : World) : Calls Try.prog 29 #[.slice none 0 0, .int .i64 0, .int .i64 0, .int .i64 0] w fun e w' => e = .returned (.tuple #[]) ∧ w = w' := by
  go_enter Try.func29, Try.ntmps29
  go_wp2
  go_loopw [1, 2] (fun v u W => v = .int .i64 0 ∧ u = .int .i64 0 ∧ w = W) (fun _ _ _ => 0)
  case atStart => exact ⟨rfl, rfl, rfl⟩
  case round =>
    obtain ⟨rfl, rfl, rfl⟩ := hrel
    go_wp2_with fail
    refine (insort_nil _).mono ?_
    rintro e w' ⟨rfl, rfl⟩
    go_wp2
    refine bodyPost_ret (results_none rfl _ _ _) rfl ?_
    exact ⟨rfl, rfl⟩
theorem sort_nil (w : World) : Calls Try.prog 18 #[.slice none 0 0] w fun e w' => e = .returned (.tuple #[]) ∧ w = w' := by
  have h := len_any 0 (by omega)
  have e0 : bitsLen 0 = 0 := rfl
  rw [e0] at h
  have HLN := Lib.hid h
  clear h
  go_enter Try.func18, Try.ntmps18
  go_wp2_with fail
  refine (HLN.out _).mono ?_
  rintro e w' ⟨rfl, rfl⟩
  go_wp2_with fail
  refine (pdq_nil _).mono ?_
  rintro e w2 ⟨rfl, rfl⟩
  go_wp2
  go_end0
  exact ⟨rfl, rfl⟩
theorem slnan_any (x : Int) (w : World) : Calls Try.prog 32 #[.int .i32 x] w fun e w' => e = .returned (.bool false) ∧ w' = w := by
  have hx : (x != x) = false := by simp
  go_enter Try.func32, Try.ntmps32
  go_wp2
  go_ret
  exact ⟨rfl, rfl⟩
theorem bs_found {x : Array Int} {i : Nat} {t : Int} (hs : SortedIn ltInt 0 x.size x) (hlo : ∀ k, k < i → x[k]! < t) (hhi : ∀ k, i ≤ k → k < x.size → ¬ x[k]! < t) : (t ∈ x.toList) ↔ (i < x.size ∧ x[i]! = t) := by
  constructor
  · intro h
    obtain ⟨k, hk, e⟩ := List.getElem_of_mem h
    have hk' : k < x.size := by simpa using hk
    have ek : x[k]! = t := by rw [← e]; simp [hk']
    have hik : i ≤ k := by
      rcases Nat.lt_or_ge k i with h' | h'
      · have := hlo k h'; omega
      · exact h'
    refine ⟨by omega, ?_⟩
    rcases Nat.eq_or_lt_of_le hik with h' | h'
    · rw [h', ek]
    · have h1 := hs i k (Nat.zero_le _) h' hk'
      have h2 := hhi i (Nat.le_refl _) (by omega)
      unfold ltInt at h1
      rw [decide_eq_false_iff_not, ek] at h1
      omega
  · rintro ⟨h1, rfl⟩
    have e : x[i]! = x[i] := by simp [h1]
    rw [e]
    exact Array.getElem_mem_toList h1
def SPostB (w : World) (r : Bool) (e : Ending) (w' : World) : Prop := (∃ k : Nat, e = .returned (.tuple #[.int .i64 (k : Int), .bool r])) ∧ w = w'
set_option maxHeartbeats 1600000 in
set_option maxRecDepth 100000 in
/-- slices.BinarySearch in a sorted row: is it there? -/
theorem bs_any (blk cap : Nat) (x : Array Int) (t : Int) (w : World) (hH : RowAt w blk x) (hs : SortedIn ltInt 0 x.size x) (hz : x.size ≤ 1000000) :
    Calls Try.prog 19 #[.slice (some ⟨blk, 0, none⟩) x.size cap, .int .i32 t] w (SPostB w (decide (t ∈ x.toList))) := by
  obtain ⟨G, hG⟩ : ∃ G : Nat → Int, ∀ t, G t = x[t]! := ⟨fun t => x[t]!, fun _ => rfl⟩
  have hcw : ∀ k, k < x.size → w.cell? ⟨blk, k, none⟩ = some (.int .i32 (G k)) := fun k hk => by rw [hG]; exact (hH.get hk).1
  have HG := Lib.hid hG
  have HM : Hid (∀ i k : Nat, i < k → k < x.size → G i ≤ G k) := fun i k h1 h2 => by
    have := hs i k (Nat.zero_le _) h1 h2
    unfold ltInt at this
    rw [decide_eq_false_iff_not, ← hG, ← hG] at this
    omega
  have HF : Hid (∀ i : Nat, (∀ k, k < i → G k < t) → (∀ k, i ≤ k → k < x.size → t ≤ G k) → decide (t ∈ x.toList) = decide (i < x.size ∧ G i = t)) := fun i h1 h2 => by
    rw [decide_eq_decide, hG]
    exact bs_found hs (fun k hk => by rw [← hG]; exact h1 k hk) (fun k hk hk' => by rw [← hG]; have := h2 k hk hk'; omega)
  obtain ⟨r, hr⟩ : ∃ r, r = decide (t ∈ x.toList) := ⟨_, rfl⟩
  rw [← hr] at HF ⊢
  clear hr hG HG hH hs
  generalize x.size = N at *
  clear x
  go_enter Try.func19, Try.ntmps19
  go_wp2
  go_loopw [7, 8] (fun v u W => ∃ i j : Nat, v = .int .i64 i ∧ u = .int .i64 j ∧ i ≤ j ∧ j ≤ N ∧ (∀ k, k < i → G k < t) ∧ (∀ k, j ≤ k → k < N → t ≤ G k) ∧ w = W) (fun v u _ => (intOf u).toNat - (intOf v).toNat)
  case atStart => exact ⟨0, N, rfl, rfl, Nat.zero_le _, Nat.le_refl _, fun k hk => absurd hk (by omega), fun k h1 h2 => absurd h1 (by omega), rfl⟩
  case round =>
    obtain ⟨i, j, rfl, rfl, hij, hj, hlo, hhi, rfl⟩ := hrel
    have HLO := Lib.hid hlo
    have HHI := Lib.hid hhi
    clear hlo hhi
    by_cases hlt : i < j
    · have ti : decide (i < j) = true := decide_eq_true hlt
      have ti' : decide ((i : Int) < (j : Int)) = true := decide_eq_true (by omega)
      obtain ⟨h, hh⟩ : ∃ h : Nat, h = (i + j) / 2 := ⟨_, rfl⟩
      have s1 : IntKind.u64.wrap ((i : Int) + (j : Int)) = (i : Int) + (j : Int) := by rw [IntKind.wrap_u64]; omega
      have hhj : h < j := by omega
      have hih : i ≤ h := by omega
      have hhN : h < N := by omega
      go_upto_region 4 with (fail)
      go_cut [9] (fun t W => t = .int .i64 h ∧ w = W)
      case first =>
        go_wp2
        go_meet
        exact ⟨by congr 1; omega, rfl⟩
      case rest =>
      obtain ⟨rfl, rfl⟩ := hcut
      clear hh s1
      have hch := hcw h hhN
      go_wp2_with fail
      refine (lless_any _ _ _).mono ?_
      rintro e w' ⟨rfl, rfl⟩
      rcases hl : ltInt (G h) t with _ | _
      · have HL : Hid (t ≤ G h) := by unfold ltInt at hl; rw [decide_eq_false_iff_not] at hl; unfold Hid; omega
        clear hl
        go_wp2
        go_roundw
        case rel => exact ⟨i, h, rfl, rfl, hih, by omega, HLO.out, fun k h1 h2 => by
            rcases Nat.eq_or_lt_of_le h1 with e | e
            · rw [← e]; exact HL.out
            · have := HM.out h k e h2; have := HL.out; omega, trivial⟩
        case measure => simp [intOf]; omega
      · have HL : Hid (G h < t) := by unfold ltInt at hl; rw [decide_eq_true_iff] at hl; exact hl
        clear hl
        go_wp2
        go_roundw
        case rel => exact ⟨h + 1, j, by go_num, rfl, by omega, hj, fun k h1 => by
            rcases Nat.lt_or_ge k h with e | e
            · have := HM.out k h e hhN; have := HL.out; omega
            · have e : k = h := by omega
              rw [e]; exact HL.out, HHI.out, trivial⟩
        case measure => simp [intOf]; omega
    · have hji : j = i := by omega
      subst hji
      have ti : decide (j < j) = false := decide_eq_false hlt
      have HR := Lib.hid (HF.out j HLO.out HHI.out)
      by_cases hjN : j < N
      · have tj : decide (j < N) = true := decide_eq_true hjN
        have tj' : decide ((j : Int) < (N : Int)) = true := decide_eq_true (by omega)
        have hcj := hcw j hjN
        rcases hv : (G j == t) with _ | _
        · have HRR : Hid (r = false) := by
            unfold Hid; rw [HR.out, decide_eq_false_iff_not]
            rw [beq_eq_false_iff_ne] at hv
            exact fun h => hv h.2
          go_wp2_with (first | (go_at_call 32; refine (slnan_any _ _).mono ?_; rintro e w' ⟨rfl, rfl⟩))
          go_ret2
          exact ⟨⟨j, by rw [HRR.out]; rfl⟩, rfl⟩
        · have HRR : Hid (r = true) := by
            unfold Hid; rw [HR.out, decide_eq_true_iff]
            rw [beq_iff_eq] at hv
            exact ⟨hjN, hv⟩
          go_wp2_with (first | (go_at_call 32; refine (slnan_any _ _).mono ?_; rintro e w' ⟨rfl, rfl⟩))
          go_ret2
          exact ⟨⟨j, by rw [HRR.out]; rfl⟩, rfl⟩
      · have tj : decide (j < N) = false := decide_eq_false hjN
        have tj' : decide ((j : Int) < (N : Int)) = false := decide_eq_false (by omega)
        have HRR : Hid (r = false) := by
          unfold Hid; rw [HR.out, decide_eq_false_iff_not]
          exact fun h => hjN h.1
        go_wp2_with (first | (go_at_call 32; refine (slnan_any _ _).mono ?_; rintro e w' ⟨rfl, rfl⟩))
        go_ret2
        exact ⟨⟨j, by rw [HRR.out]; rfl⟩, rfl⟩
theorem bs_nil (t : Int) (w : World) : Calls Try.prog 19 #[.slice none 0 0, .int .i32 t] w (SPostB w false) := by
  go_enter Try.func19, Try.ntmps19
  go_wp2
  go_loopw [7, 8] (fun v u W => v = .int .i64 0 ∧ u = .int .i64 0 ∧ w = W) (fun _ _ _ => 0)
  case atStart => exact ⟨rfl, rfl, rfl⟩
  case round =>
    obtain ⟨rfl, rfl, rfl⟩ := hrel
    go_wp2
    go_ret2
    exact ⟨⟨0, rfl⟩, rfl⟩
/-- What is in a sorted slice, is found. -/
def Srt (v : Value) (W : World) (ys : List Int) : Prop := ∀ t : Int, Calls Try.prog 19 #[v, .int .i32 t] W (SPostB W (hasB ys t))
theorem below_of_sw {B g : Nat} {w0 w w' : World} {d : Array Int} (hb : Below B w0 w) (hg : B ≤ g) (hs : SW w w' g d) (hsz : w0.heap.size ≤ w.heap.size) (hB : B ≤ w0.heap.size) : Below B w0 w' :=
  ⟨hs.1.os.trans hb.os, hs.1.tape.trans hb.tape, hs.1.output.trans hb.output, Nat.le_trans hsz hs.1.size, fun k hk => (hs.1.block k (by omega) (by omega)).trans (hb.block k hk)⟩
theorem perm_whole {d x : Array Int} (h : PermIn 0 d.size d x) : x.toList.Perm d.toList := by
  have h2 := h.2.2
  have e1 : x.extract 0 d.size = x := by rw [← h.1]; simp
  have e2 : d.extract 0 d.size = d := by simp
  rw [e1, e2] at h2
  exact h2
set_option maxHeartbeats 1600000 in
set_option maxRecDepth 100000 in
/-- lit.Within: is each of a in b? -/
theorem within_any (A A2 : Option Addr) (n c n2 c2 : Nat) (xs ys : List Int) (w : World) (h : Rd .i32 w w.heap.size A n xs) (h2 : Rd .i32 w w.heap.size A2 n2 ys) (hn : n ≤ 1000000) (hn2 : n2 ≤ 1000000) :
    Calls Try.prog 10 #[.slice A n c, .slice A2 n2 c2] w fun e w' => e = .returned (.bool (xs.all (hasB ys))) ∧ Below w.heap.size w w' := by
  have H1 := Lib.hid h
  have H2 := Lib.hid h2
  have HL := Lib.hid h.len
  clear h h2
  go_enter Try.func10, Try.ntmps10
  go_upto_region 1 with (fail)
  go_cut [5] (fun t W => (t = .slice none 0 0 ∧ ys = [] ∧ w = W) ∨ (t ≠ .slice none 0 0 ∧ W.ownsRow w.heap.size 29 1 t n2 (ys.map (Value.int .i32)) ∧ Below w.heap.size w W))
  case first =>
    rcases A2 with _ | ad
    · have hn0 : n2 = 0 := by
        rcases Nat.eq_zero_or_pos n2 with h0 | h0
        · exact h0
        · obtain ⟨b, o, e, _⟩ := H2.out.at_ h0; cases e
      subst hn0
      have hx : ys = [] := List.length_eq_zero_iff.1 H2.out.len
      have HY := Lib.hid hx
      have hc1 := fun W => AnyE.slices_Clone_nil Try.cloneL 0 c2 W
      change ∀ W, Calls Try.prog 17 _ _ _ at hc1
      have C1 := Lib.hid hc1
      clear hc1 hx
      go_wp2_with fail
      refine (C1.out _).mono ?_
      rintro e w' ⟨rfl, rfl⟩
      go_wp2
      go_meet
      exact .inl ⟨rfl, HY.out, rfl⟩
    · have HC := Lib.hid (clone_some ad n2 c2 ys w H2.out (by omega))
      go_wp2_with fail
      refine HC.out.mono ?_
      rintro e w1 ⟨v', rfl, hown, hne, hb⟩
      have HO := Lib.hid hown
      have HB := Lib.hid hb
      have HN := Lib.hid hne
      clear hown hb hne
      go_wp2
      go_meet
      exact .inr ⟨HN.out, HO.out, HB.out⟩
  case rest =>
  have HC0 := Lib.hid hcut
  clear hcut
  go_upto_region 2 with (fail)
  go_cut [0] (fun t W => t = .slice A n c ∧ Srt u5 W ys ∧ Below w.heap.size w W)
  case first =>
    rcases HC0.out with ⟨e1, e2, e3⟩ | ⟨hne, hown, hb⟩
    · subst e1
      subst e3
      clear HC0
      have HY := Lib.hid e2
      clear e2
      go_wp2_with fail
      refine (sort_nil _).mono ?_
      rintro e w' ⟨rfl, rfl⟩
      go_wp2
      go_meet
      refine ⟨rfl, fun t => ?_, Below.refl _ _⟩
      have e0 : hasB ys t = false := by rw [HY.out]; rfl
      rw [e0]
      exact bs_nil t _
    · obtain ⟨g, cap, e1, hbg, hlt, hncap, hcap, hlen, hH⟩ := holds_of_ownsRow hown hne
      subst e1
      have hsz : ys.toArray.size = n2 := by simp [hlen]
      have c0 := sort_any g cap ys.toArray wc hH hlt (by rw [hsz]; exact hn2)
      rw [hsz] at c0
      have HC := Lib.hid c0
      have HB := Lib.hid hb
      have HSZ := Lib.hid hsz
      have hwc : w.heap.size ≤ wc.heap.size := hb.size
      clear c0 hown hne hH hcap hncap hlen hb hsz HC0
      go_wp2_with fail
      refine HC.out.mono ?_
      rintro e w2 ⟨rfl, x, hp, hs, hsw⟩
      have HP := Lib.hid hp
      have HS := Lib.hid hs
      have HSW := Lib.hid hsw
      clear hp hs hsw HC
      go_wp2
      go_meet
      refine ⟨rfl, fun t => ?_, below_of_sw HB.out hbg HSW.out hwc (Nat.le_refl _)⟩
      have hx : x.size = n2 := by
        have := HP.out.1
        rw [HSZ.out] at this
        exact this
      have c1 := bs_any g cap x t w2 HSW.out.2 (by rw [hx]; exact HS.out) (by rw [hx]; exact hn2)
      rw [hx] at c1
      have e0 : decide (t ∈ x.toList) = hasB ys t := by
        have hpp := HP.out
        rw [← HSZ.out] at hpp
        rw [Bool.eq_iff_iff, decide_eq_true_iff, hasB_iff, (perm_whole hpp).mem_iff]
      rw [e0] at c1
      exact c1
  case rest =>
  obtain ⟨rfl, hsrt, hb⟩ := hcut
  have HSR := Lib.hid hsrt
  have HB := Lib.hid hb
  have H3 := Lib.hid (H1.out.below hb)
  clear hsrt hb HC0 H1 H2
  go_wp2
  go_loopw [16] (fun i W => ∃ k : Nat, k ≤ n ∧ i = .int .i64 k ∧ wc = W ∧ ∀ j, j < k → hasB ys (xs.getD j 0) = true) (fun i _ => n - (intOf i).toNat)
  case atStart => exact ⟨0, Nat.zero_le _, rfl, rfl, fun j hj => absurd hj (by omega)⟩
  case round =>
    obtain ⟨k, hk, rfl, rfl, hall⟩ := hrel
    have HA := Lib.hid hall
    clear hall
    by_cases hlt : k < n
    · have tk : decide (k < n) = true := decide_eq_true hlt
      have tk' : decide ((k : Int) < (n : Int)) = true := decide_eq_true (by omega)
      obtain ⟨b, o, rfl, hb, hc⟩ := H3.out.get hlt
      generalize hxk : xs.getD k 0 = y at *
      have HX := Lib.hid hxk
      clear hxk
      go_wp2_with fail
      refine (HSR.out y).mono ?_
      rintro e w' ⟨⟨p, rfl⟩, rfl⟩
      rcases hx : hasB ys y with _ | _
      · have EV : Hid (xs.all (hasB ys) = false) := by
          unfold Hid
          rw [List.all_eq_false]
          have hkl : k < xs.length := by rw [HL.out]; exact hlt
          refine ⟨y, ?_, by rw [hx]; simp⟩
          rw [← HX.out, getD_lt hkl]
          exact List.getElem_mem hkl
        clear hx
        go_wp2
        go_ret
        exact ⟨ret_bool (by rw [EV.out]), HB.out⟩
      · have HO := Lib.hid hx
        clear hx
        go_wp2
        go_roundw
        case rel =>
          refine ⟨k + 1, by omega, by go_num, trivial, fun j hj => ?_⟩
          by_cases e : j = k
          · rw [e, HX.out]; exact HO.out
          · exact HA.out j (by omega)
        case measure => simp [intOf]; omega
    · have tk : decide (k < n) = false := decide_eq_false hlt
      have tk' : decide ((k : Int) < (n : Int)) = false := decide_eq_false (by omega)
      have EV : Hid (xs.all (hasB ys) = true) := by
        unfold Hid
        rw [List.all_eq_true]
        intro x hx
        obtain ⟨j, hj, rfl⟩ := List.getElem_of_mem hx
        have := HA.out j (by rw [HL.out] at hj; omega)
        rw [getD_lt hj] at this
        exact this
      go_wp2
      go_ret
      exact ⟨ret_bool (by rw [EV.out]), HB.out⟩
end Go.Proofs.Ytghclmbicdmboaa
