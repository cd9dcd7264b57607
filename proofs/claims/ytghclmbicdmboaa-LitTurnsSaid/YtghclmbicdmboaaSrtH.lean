/- The library's heap sort, at 32-bit numbers. -/
import Derived.Test.YtghclmbicdmboaaSrtB
namespace Go.Proofs.Ytghclmbicdmboaa
open Go.RowKit Go.Sort

/-- Where the heap's building stands, its emptying. -/
def HpB (w : World) (blk hi a K N : Nat) (d : Array Int) (v : Value) (W : World) : Prop :=
  ∃ (k : Nat) (x : Array Int), v = .int .i64 ((k : Int) - 1) ∧ k ≤ K ∧ x.size = N ∧ SW w W blk x ∧ heapBuild ltInt hi a k x = heapBuild ltInt hi a K d
def HpP (w : World) (blk hi a N : Nat) (d : Array Int) (v : Value) (W : World) : Prop :=
  ∃ (k : Nat) (x : Array Int), v = .int .i64 ((k : Int) - 1) ∧ k ≤ hi ∧ x.size = N ∧ SW w W blk x ∧ heapPop ltInt a k x = heapPop ltInt a hi d
theorem sift_size (hi first : Nat) : ∀ (n r : Nat) (x : Array Int), hi - r ≤ n → (siftDown ltInt hi first r x).size = x.size := by
  intro n
  induction n with
  | zero => intro r x h; rw [sift_end (by omega)]
  | succ n ih =>
    intro r x h
    by_cases h1 : 2 * r + 1 < hi
    · cases hk : kidB hi first r x with
      | false =>
        rw [sift_lo h1 hk]
        split
        · rw [ih _ _ (by omega), swp_size]
        · rfl
      | true =>
        rw [sift_hi hk]
        split
        · rw [ih _ _ (by omega), swp_size]
        · rfl
    · rw [sift_end h1]
theorem size_sift (hi first r : Nat) (x : Array Int) : (siftDown ltInt hi first r x).size = x.size := sift_size hi first _ r x (Nat.le_refl _)
set_option maxHeartbeats 3200000 in
set_option maxRecDepth 100000 in
theorem heap_any (blk cap a b : Nat) (d : Array Int) (w : World) (hH : RowAt w blk d) (hab : a < b) (hb : b ≤ d.size) (hz : d.size ≤ 1000000) :
    Calls Try.prog 38 #[.slice (some ⟨blk, 0, none⟩) d.size cap, .int .i64 a, .int .i64 b] w (SPost w blk (Sort.heapSort ltInt d a b)) := by
  obtain ⟨hi, hhi⟩ : ∃ hi, hi = b - a := ⟨_, rfl⟩
  obtain ⟨K, hK⟩ : ∃ K, K = (hi - 1) / 2 + 1 := ⟨_, rfl⟩
  have e1 : (b : Int) - (a : Int) = (hi : Int) := by omega
  have e2 : ((hi : Int) - 1) / 2 = (K : Int) - 1 := by omega
  have e2' : ((hi : Int) - 1).tdiv 2 = (K : Int) - 1 := by rw [Int.tdiv_eq_ediv_of_nonneg (by omega)]; exact e2
  have HSP : Hid (Sort.heapSort ltInt d a b = heapPop ltInt a hi (heapBuild ltInt hi a K d)) := by unfold Hid Sort.heapSort; rw [hK, hhi]
  have hhi1 : 1 ≤ hi := by omega
  have hKN : K ≤ d.size := by omega
  have hbh : a + hi ≤ d.size := by omega
  have HH := Lib.hid hH
  have HS := Lib.hid (SW.start hH)
  clear hH
  obtain ⟨N, hN⟩ : ∃ N, N = d.size := ⟨_, rfl⟩
  rw [← hN] at hb hz hKN hbh ⊢
  have HN := Lib.hid hN
  clear hN
  go_enter Try.func38, Try.ntmps38
  rw [HSP.out]
  obtain ⟨Y, hY⟩ : ∃ Y, Y = heapBuild ltInt hi a K d := ⟨_, rfl⟩
  rw [← hY]
  have HYE := Lib.hid hY
  clear hhi hK hY
  go_upto_region 2 with (fail)
  go_cut [8] (fun t W => t = .int .i64 hi ∧ w = W)
  case first =>
    go_wp2
    go_meet
    first | exact ⟨rfl, rfl⟩ | exact ⟨by rw [e1], rfl⟩
  case rest =>
  obtain ⟨rfl, rfl⟩ := hcut
  clear e1
  go_upto_region 3 with (fail)
  go_cut [9] (fun t W => t = .int .i64 ((K : Int) - 1) ∧ w = W)
  case first =>
    go_wp2
    go_meet
    first | exact ⟨rfl, rfl⟩ | exact ⟨by first | rw [e2] | rw [e2'], rfl⟩
  case rest =>
  obtain ⟨rfl, rfl⟩ := hcut
  clear e2 e2'
  go_upto_block 0 with (fail)
  go_cut [8] (fun t W => t = .int .i64 hi ∧ Y.size = N ∧ SW w W blk Y)
  case first =>
    go_wp2
    go_loopw [9] (fun v W => HpB w blk hi a K N d v W) (fun v _ => (intOf v + 1).toNat)
    case atStart => exact ⟨K, d, rfl, by omega, HN.out.symm, HS.out, rfl⟩
    case round =>
      obtain ⟨k, x, rfl, hk, hx, hs, he⟩ := hrel
      have HX := Lib.hid hx
      have HSx := Lib.hid hs
      have HE := Lib.hid he
      cases k with
      | zero =>
        have z : ((0 : Nat) : Int) - 1 = -1 := by decide
        rw [z]
        clear hx hs he z
        go_wp2
        go_meet
        have hxy : x = Y := HE.out.trans HYE.out.symm
        subst hxy
        exact ⟨rfl, HX.out, HSx.out⟩
      | succ m =>
        have z : ((m + 1 : Nat) : Int) - 1 = (m : Int) := by omega
        rw [z]
        have HC := Lib.hid (sift_any blk cap m hi a x wr (HSx.out.row HH.out (by rw [hx]; exact HN.out)) (by omega) (by omega) (by omega))
        rw [hx] at HC
        have HE2 : Hid (heapBuild ltInt hi a m (siftDown ltInt hi a m x) = heapBuild ltInt hi a K d) := he
        clear hx hs he z HE
        go_wp2_with fail
        refine HC.out.mono ?_
        rintro e w2 ⟨rfl, hs2⟩
        have HS2 := Lib.hid (HSx.out.trans hs2 (size_sift _ _ _ _))
        clear hs2 HC
        go_wp2
        go_roundw
        case rel => exact ⟨m, _, rfl, by omega, by rw [size_sift]; exact HX.out, HS2.out, HE2.out⟩
        case measure => first | (simp [intOf]; done) | (simp [intOf]; omega)
  case rest =>
  obtain ⟨rfl, hy, hsy⟩ := hcut
  have HY := Lib.hid hy
  have HSY := Lib.hid hsy
  clear hy hsy
  go_wp2
  go_loopw [10] (fun v W => HpP w blk hi a N Y v W) (fun v _ => (intOf v + 1).toNat)
  case atStart => exact ⟨hi, Y, rfl, by omega, HY.out, HSY.out, rfl⟩
  case round =>
    obtain ⟨k, x, rfl, hk, hx, hs, he⟩ := hrel
    have HX := Lib.hid hx
    have HSx := Lib.hid hs
    have HE := Lib.hid he
    cases k with
    | zero =>
      have z : ((0 : Nat) : Int) - 1 = -1 := by decide
      rw [z]
      clear hx hs he z
      go_wp2
      go_end0
      exact ⟨rfl, by rw [← HE.out]; exact HSx.out⟩
    | succ m =>
      have z : ((m + 1 : Nat) : Int) - 1 = (m : Int) := by omega
      rw [z]
      obtain ⟨f, hf⟩ : ∃ f, f = a + m := ⟨_, rfl⟩
      have s1 : IntKind.i64.wrap ((a : Int) + (m : Int)) = (f : Int) := by rw [IntKind.wrap_i64]; omega
      have s1' : (a : Int) + (m : Int) = (f : Int) := by omega
      have b1 : a < N := by omega
      have b2 : f < N := by omega
      have HE2 : Hid (heapPop ltInt a m (siftDown ltInt m a 0 (swp x a f)) = heapPop ltInt a hi Y) := by rw [hf]; exact he
      have hfm : a + m ≤ N := by omega
      clear hx hs he z HE hf
      have hrow := HSx.out.row HH.out (by rw [HX.out]; exact HN.out)
      obtain ⟨G, hG⟩ : ∃ G : Nat → Int, ∀ t, G t = x[t]! := ⟨fun t => x[t]!, fun _ => rfl⟩
      have hcw : ∀ t, t < N → wr.cell? ⟨blk, t, none⟩ = some (.int .i32 (G t)) := fun t ht => by rw [hG]; exact (hrow.get (by rw [HX.out]; omega)).1
      have hfw : ∀ t, t < N → wr.frozen? ⟨blk, t, none⟩ = false := fun t ht => (hrow.get (by rw [HX.out]; omega)).2
      have HG := Lib.hid hG
      clear hrow hG
      go_upto_region 10 with (fail)
      go_cut [10] (fun t W => t = .int .i64 m ∧ SW w W blk (swp x a f))
      case first =>
        by_cases hm0 : f = a
        · subst hm0
          clear s1'
          go_wp2
          go_region
          all_goals go_wp2
          all_goals
            go_meet
            refine ⟨rfl, ?_⟩
            rw [HG.out]
            exact (HSx.out.drewN 1).swap (by rw [HX.out]; omega) (by rw [HX.out]; omega)
        · have hne : ¬ (a = f) := fun h => hm0 h.symm
          go_wp2
          go_region
          all_goals go_wp2
          all_goals
            go_meet
            refine ⟨rfl, ?_⟩
            rw [HG.out, HG.out]
            exact (HSx.out.drewN 1).swap (by rw [HX.out]; omega) (by rw [HX.out]; omega)
      case rest =>
      obtain ⟨rfl, hs2⟩ := hcut
      have HS2 := Lib.hid hs2
      have hsz : (swp x a f).size = N := by rw [swp_size]; exact HX.out
      have HC := Lib.hid (sift_any blk cap 0 m a (swp x a f) wc (hs2.row HH.out (by rw [hsz]; exact HN.out)) (by omega) (by omega) (by omega))
      rw [hsz] at HC
      have HSZ := Lib.hid hsz
      clear hs2 hsz hcw hfw s1 s1'
      go_wp2_with fail
      refine HC.out.mono ?_
      rintro e w2 ⟨rfl, hs3⟩
      have HS3 := Lib.hid (HS2.out.trans hs3 (size_sift _ _ _ _))
      clear hs3 HC
      go_wp2
      go_roundw
      case rel => exact ⟨m, _, rfl, by omega, by rw [size_sift]; exact HSZ.out, HS3.out, HE2.out⟩
      case measure => first | (simp [intOf]; done) | (simp [intOf]; omega)
end Go.Proofs.Ytghclmbicdmboaa
