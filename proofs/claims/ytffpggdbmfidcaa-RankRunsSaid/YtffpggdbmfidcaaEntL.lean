/- The plain answer's loops: Halve, New, Pop. -/
import Derived.Test.YtffpggdbmfidcaaEntR
namespace Go.Proofs.Ytffpggdbmfidcaa
open Go.RowKit HeapM

section
variable {g n cap : Nat} {s : Nat → Int} {t : Nat → Bool}

/-- The loop's relation: out has k entries. -/
def OutRel (n : Nat) (s : Nat → Int) (t : Nat → Bool) (d : Nat) (w : World) (o v : Value) (wr : World) : Prop :=
  ∃ (k : Nat), v = .int .i64 (k : Int) ∧ k ≤ n ∧ wr.ownsRow w.heap.size 44 2 o (k + d) (cellsE s t (k + d)) ∧ Below w.heap.size w wr

set_option maxHeartbeats 3200000 in
set_option maxRecDepth 100000 in
theorem rhalve_any (w : World) (h : RowE w g n cap s t) (hn : n ≤ 1000) (hn1 : 1 ≤ n) (hS : ∀ v, 0 ≤ s v ∧ s v ≤ 1152921504606846976) :
    Calls Try.prog 16 #[.slice (some ⟨g, 0, none⟩) n cap] w fun e w' => ∃ z, e = .returned z ∧ EntTo n (fun v => s v / 2) t w z w' := by
  have HR := Lib.hid h
  have HSC := Lib.hid hS
  have hcap := h.bd
  obtain ⟨hcap1, hcap2⟩ := hcap
  have HS : Hid (OutRel n (fun v => s v / 2) t 0 w (.slice (some ⟨w.heap.size, 0, none⟩) 0 0) (.int .i64 0) (w.alloc (.cells #[] 44))) :=
    ⟨0, rfl, Nat.zero_le _, World.ownsRow_made (e := 44) (size := 2) w #[] 0 (Nat.le_refl _) (Nat.zero_le _) (by simp), (Below.refl _ _).alloc (Nat.le_refl _) _⟩
  clear h hS
  go_enter Try.func16, Try.ntmps16
  go_wp2_with fail
  go_loopw [3, 9] (fun o v wr => OutRel n (fun v => s v / 2) t 0 w o v wr) (fun _ v _ => n - (intOf v).toNat)
  case atStart => exact HS.out
  case round =>
    clear HS
    obtain ⟨k, rfl, hk, hown, hB⟩ := hrel
    by_cases hlt : k < n
    · obtain ⟨c0, c1⟩ := (HR.out.below hB).cells hlt
      have hx0 := (HSC.out k).1
      have hx1 := (HSC.out k).2
      have hs := hB.size
      have HO := Lib.hid ((hown.alloc (.cells #[.int .i64 (s k), .bool (t k)] 44)).alloc (.cells #[.int .i64 (s k / 2), .bool (t k)] 44))
      have HN := Lib.hid (one_news (wr.alloc (.cells #[.int .i64 (s k), .bool (t k)] 44)) (s k / 2) (t k))
      have HB := Lib.hid ((hB.alloc hs (.cells #[.int .i64 (s k), .bool (t k)] 44)).alloc (by simp; omega) (.cells #[.int .i64 (s k / 2), .bool (t k)] 44))
      have hsz : (wr.alloc (.cells #[.int .i64 (s k), .bool (t k)] 44)).heap.size = wr.heap.size + 1 := by simp
      rw [hsz] at HN
      have HC : Hid (cellsE (fun v => s v / 2) t k ++ [Value.int .i64 (s k / 2), Value.bool (t k)] = cellsE (fun v => s v / 2) t (k + 1)) := (cellsE_succ _ _ _).symm
      clear hown hB hsz
      generalize s k = x at *
      generalize t k = y at *
      go_wp2_with (at_builtin; refine wpList_append_ent _ rfl _ _ rfl w.heap.size _ (k + 0) (cellsE (fun v => s v / 2) t (k + 0)) rfl HO.out (wr.heap.size + 1) 1 1 [.int .i64 (x / 2), .bool y] rfl rfl HN.out (one_plain _ _) (by omega) (by simp; omega) ?_)
      intro v2 w2 hown2 hB2
      rw [HC.out] at hown2
      have HR2 : Hid (OutRel n (fun v => s v / 2) t 0 w v2 (.int .i64 ((k : Int) + 1)) w2) := ⟨k + 1, by rw [show ((k + 1 : Nat) : Int) = (k : Int) + 1 from by omega], hlt, hown2, HB.out.trans hB2⟩
      clear hown2 hB2 HO HN HB HC
      go_wp2_with fail
      go_roundw
      case rel => exact HR2.out
      case measure => simp [intOf]; omega
    · have hkn : k = n := by omega
      subst hkn
      obtain ⟨g1, cap1, rfl, hg1, hR1⟩ := RowE.of_own (by omega) hown
      have HE : Hid (EntTo k (fun v => s v / 2) t w (.slice (some ⟨g1, 0, none⟩) k cap1) wr) := ⟨g1, cap1, rfl, hR1, hg1, hB⟩
      clear hown hB hR1
      go_wp2_with fail
      go_ret
      exact ⟨_, rfl, HE.out⟩

/-- All but 0 wait. -/
def allW : Nat → Bool := fun v => v != 0

set_option maxHeartbeats 3200000 in
set_option maxRecDepth 100000 in
theorem rnew_nat (n : Nat) (w : World) (hn : n ≤ 60) :
    Calls Try.prog 13 #[.int .i64 (n : Int)] w fun e w' => ∃ z, e = .returned z ∧ EntTo (n + 1) (fun _ => 0) allW w z w' := by
  have HS : Hid (OutRel n (fun _ => 0) allW 1 w (.slice (some ⟨w.heap.size, 0, none⟩) 1 1) (.int .i64 0) (w.alloc (.cells #[.int .i64 0, .bool false] 44))) :=
    ⟨0, rfl, Nat.zero_le _, ⟨cellsE_length _ _ _, .inr ⟨w.heap.size, 1, _, rfl, Nat.le_refl _, by show (w.heap.push _)[w.heap.size]? = _; simp; rfl, by omega, by unfold maxLen; omega, rfl, rfl⟩⟩, (Below.refl _ _).alloc (Nat.le_refl _) _⟩
  go_enter Try.func13, Try.ntmps13
  go_wp2_with fail
  go_loopw [3, 4] (fun o v wr => OutRel n (fun _ => 0) allW 1 w o v wr) (fun _ v _ => n - (intOf v).toNat)
  case atStart => exact HS.out
  case round =>
    clear HS
    obtain ⟨k, rfl, hk, hown, hB⟩ := hrel
    by_cases hlt : k < n
    · have hs := hB.size
      have HO := Lib.hid (hown.alloc (.cells #[.int .i64 0, .bool true] 44))
      have HN := Lib.hid (one_news wr 0 true)
      have HB := Lib.hid (hB.alloc hs (.cells #[.int .i64 0, .bool true] 44))
      have HC : Hid (cellsE (fun _ => 0) allW (k + 1) ++ [Value.int .i64 0, Value.bool true] = cellsE (fun _ => 0) allW (k + 1 + 1)) := by
        unfold Hid; rw [cellsE_succ (n := k + 1), show allW (k + 1) = true from by simp [allW]]
      have t1 : decide (k < 262144) = true := decide_eq_true (by omega)
      have t2 : decide ((k : Int) < 262144) = true := decide_eq_true (by omega)
      clear hown hB
      go_wp2_with (at_builtin; refine wpList_append_ent _ rfl _ _ rfl w.heap.size _ (k + 1) (cellsE (fun _ => 0) allW (k + 1)) rfl HO.out wr.heap.size 1 1 [.int .i64 0, .bool true] rfl rfl HN.out (one_plain _ _) (by omega) (by simp; omega) ?_)
      intro v2 w2 hown2 hB2
      rw [HC.out] at hown2
      have HR2 : Hid (OutRel n (fun _ => 0) allW 1 w v2 (.int .i64 ((k : Int) + 1)) w2) := ⟨k + 1, by rw [show ((k + 1 : Nat) : Int) = (k : Int) + 1 from by omega], hlt, hown2, HB.out.trans hB2⟩
      clear hown2 hB2 HO HN HB HC
      go_wp2_with fail
      go_roundw
      case rel => exact HR2.out
      case measure => simp [intOf]; omega
    · have hkn : k = n := by omega
      subst hkn
      obtain ⟨g1, cap1, rfl, hg1, hR1⟩ := RowE.of_own (by omega) hown
      have HE : Hid (EntTo (k + 1) (fun _ => 0) allW w (.slice (some ⟨g1, 0, none⟩) (k + 1) cap1) wr) := ⟨g1, cap1, rfl, hR1, hg1, hB⟩
      clear hown hB hR1
      go_wp2_with fail
      go_ret
      exact ⟨_, rfl, HE.out⟩
set_option maxHeartbeats 3200000 in
set_option maxRecDepth 100000 in
theorem rnew_zero (v : Int) (w : World) (hv : v ≤ 0) :
    Calls Try.prog 13 #[.int .i64 v] w fun e w' => ∃ z, e = .returned z ∧ EntTo 1 (fun _ => 0) allW w z w' := by
  have HS : Hid (EntTo 1 (fun _ => 0) allW w (.slice (some ⟨w.heap.size, 0, none⟩) 1 1) (w.alloc (.cells #[.int .i64 0, .bool false] 44))) :=
    ⟨w.heap.size, 1, rfl, ⟨_, by show (w.heap.push _)[w.heap.size]? = _; simp; rfl, by omega, by unfold maxLen; omega, rfl, rfl⟩, Nat.le_refl _, (Below.refl _ _).alloc (Nat.le_refl _) _⟩
  have tv : decide (0 < v) = false := decide_eq_false (by omega)
  go_enter Try.func13, Try.ntmps13
  go_wp2_with fail
  go_loopw [3, 4] (fun o v wr => o = .slice (some ⟨w.heap.size, 0, none⟩) 1 1 ∧ v = .int .i64 0 ∧ wr = w.alloc (.cells #[.int .i64 0, .bool false] 44)) (fun _ _ _ => 0)
  case atStart => exact ⟨rfl, rfl, rfl⟩
  case round =>
    obtain ⟨rfl, rfl, rfl⟩ := hrel
    go_wp2_with fail
    go_ret
    exact ⟨_, rfl, HS.out⟩
theorem rnew_any (v : Int) (w : World) (hv : v ≤ 60) :
    Calls Try.prog 13 #[.int .i64 v] w fun e w' => ∃ z, e = .returned z ∧ EntTo (v.toNat + 1) (fun _ => 0) allW w z w' := by
  by_cases h : v ≤ 0
  · rw [show v.toNat = 0 from by omega]; exact rnew_zero v w h
  · obtain ⟨n, rfl⟩ := Int.eq_ofNat_of_zero_le (show 0 ≤ v by omega)
    exact rnew_nat n w (by omega)

/-- The best one of those before v. -/
def Best (s : Nat → Int) (t : Nat → Bool) (v q : Nat) : Prop :=
  (q = 0 ∧ ∀ u, 1 ≤ u → u < v → t u = false) ∨ (1 ≤ q ∧ q < v ∧ t q = true ∧ ∀ u, 1 ≤ u → u < v → t u = true → le s q u)
def BestRel (n : Nat) (s : Nat → Int) (t : Nat → Bool) (w : World) (o v : Value) (wr : World) : Prop :=
  ∃ (k q : Nat), v = .int .i64 (k : Int) ∧ o = .int .i64 (q : Int) ∧ 1 ≤ k ∧ k ≤ n ∧ Best s t k q ∧ ∃ d, wr = w.drewN d
theorem Best.skip {v q : Nat} (h : Best s t v q) (hv : t v = false) : Best s t (v + 1) q := by
  rcases h with ⟨h1, h2⟩ | ⟨h1, h2, h3, h4⟩
  · refine .inl ⟨h1, fun u u1 u2 => ?_⟩
    by_cases e : u = v
    · rw [e]; exact hv
    · exact h2 u u1 (by omega)
  · refine .inr ⟨h1, by omega, h3, fun u u1 u2 hu => ?_⟩
    by_cases e : u = v
    · rw [e, hv] at hu; cases hu
    · exact h4 u u1 (by omega) hu
theorem Best.take {v q : Nat} (h : Best s t v q) (h1 : 1 ≤ v) (hv : t v = true) (hb : q = 0 ∨ s q < s v) : Best s t (v + 1) v := by
  refine .inr ⟨h1, by omega, hv, fun u u1 u2 hu => ?_⟩
  by_cases e : u = v
  · rw [e]; exact le_refl _ _
  · rcases h with ⟨k1, k2⟩ | ⟨k1, k2, k3, k4⟩
    · rw [k2 u u1 (by omega)] at hu; cases hu
    · have := k4 u u1 (by omega) hu
      unfold le at this ⊢
      omega
theorem Best.stay {v q : Nat} (h : Best s t v q) (hq : 1 ≤ q) (hb : s v ≤ s q) : Best s t (v + 1) q := by
  rcases h with ⟨k1, k2⟩ | ⟨k1, k2, k3, k4⟩
  · omega
  · refine .inr ⟨k1, by omega, k3, fun u u1 u2 hu => ?_⟩
    by_cases e : u = v
    · rw [e]; unfold le; omega
    · exact k4 u u1 (by omega) hu

/-- What Pop answers. -/
def RPopPost (g n cap : Nat) (s : Nat → Int) (t : Nat → Bool) (w : World) (e : Ending) (w' : World) : Prop :=
  ((∀ u, 1 ≤ u → u < n → t u = false) ∧ e = .returned (.tuple #[.slice (some ⟨g, 0, none⟩) n cap, .int .i64 0, .bool false]) ∧ Below w.heap.size w w') ∨
  (∃ (v : Nat) (z : Value), FirstOf (n - 1) s t v ∧ e = .returned (.tuple #[z, .int .i64 (v : Int), .bool true]) ∧ EntTo n s (upd t v false) w z w')

set_option maxHeartbeats 6400000 in
set_option maxRecDepth 100000 in
theorem rpop_any (w : World) (h : RowE w g n cap s t) (hn : n ≤ 1000) (hn1 : 1 ≤ n) :
    Calls Try.prog 19 #[.slice (some ⟨g, 0, none⟩) n cap] w (RPopPost g n cap s t w) := by
  have HR := Lib.hid h
  have hcap := h.bd
  obtain ⟨hcap1, hcap2⟩ := hcap
  have HS : Hid (BestRel n s t w (.int .i64 0) (.int .i64 1) w) := ⟨1, 0, rfl, rfl, Nat.le_refl _, hn1, .inl ⟨rfl, fun u u1 u2 => by omega⟩, 0, rfl⟩
  clear h
  go_enter Try.func19, Try.ntmps19
  go_wp2_with fail
  go_loopw [5, 6] (fun o v wr => BestRel n s t w o v wr) (fun _ v _ => n - (intOf v).toNat)
  case atStart => exact HS.out
  case round =>
    clear HS
    obtain ⟨k, q, rfl, rfl, hk1, hk, hbest, d, rfl⟩ := hrel
    by_cases hlt : k < n
    · obtain ⟨c0, c1⟩ := HR.out.cells hlt
      have tl : decide (k < n) = true := decide_eq_true hlt
      rcases htk : t k
      · have HS' : Hid (∀ d, BestRel n s t w (.int .i64 (q : Int)) (.int .i64 ((k : Int) + 1)) (w.drewN d)) := fun d => ⟨k + 1, q, by rw [show ((k + 1 : Nat) : Int) = (k : Int) + 1 from by omega], rfl, by omega, hlt, hbest.skip htk, d, rfl⟩
        rw [htk] at c1
        clear hbest htk
        go_wp2_with fail
        go_quiet (fail)
        try simp only [World.drewN_drewN]
        go_wp2_with fail
        go_roundw
        case rel => exact HS'.out _
        case measure => simp [intOf]; omega
      · rw [htk] at c1
        by_cases hq : q = 0
        · have tq : ((q : Int) == 0) = true := by rw [beq_iff_eq]; omega
          have HS' : Hid (∀ d, BestRel n s t w (.int .i64 (k : Int)) (.int .i64 ((k : Int) + 1)) (w.drewN d)) := fun d => ⟨k + 1, k, by rw [show ((k + 1 : Nat) : Int) = (k : Int) + 1 from by omega], rfl, by omega, hlt, hbest.take hk1 htk (.inl hq), d, rfl⟩
          clear hbest htk hq
          go_wp2_with fail
          go_quiet (fail)
          try simp only [World.drewN_drewN]
          go_wp2_with fail
          go_roundw
          case rel => exact HS'.out _
          case measure => simp [intOf]; omega
        · have tq : ((q : Int) == 0) = false := by rw [beq_eq_false_iff_ne]; omega
          have hqn : q < n := by rcases hbest with ⟨e, _⟩ | ⟨_, e, _⟩ <;> omega
          obtain ⟨d0, d1⟩ := HR.out.cells hqn
          by_cases hgt : s q < s k
          · have HS' : Hid (∀ d, BestRel n s t w (.int .i64 (k : Int)) (.int .i64 ((k : Int) + 1)) (w.drewN d)) := fun d => ⟨k + 1, k, by rw [show ((k + 1 : Nat) : Int) = (k : Int) + 1 from by omega], rfl, by omega, hlt, hbest.take hk1 htk (.inr hgt), d, rfl⟩
            have tg : decide (s q < s k) = true := decide_eq_true hgt
            clear hbest htk hgt hq
            generalize s q = x at *
            generalize s k = y at *
            go_wp2_with fail
            go_quiet (fail)
            try simp only [World.drewN_drewN]
            go_wp2_with fail
            go_roundw
            case rel => exact HS'.out _
            case measure => simp [intOf]; omega
          · have HS' : Hid (∀ d, BestRel n s t w (.int .i64 (q : Int)) (.int .i64 ((k : Int) + 1)) (w.drewN d)) := fun d => ⟨k + 1, q, by rw [show ((k + 1 : Nat) : Int) = (k : Int) + 1 from by omega], rfl, by omega, hlt, hbest.stay (by omega) (by omega), d, rfl⟩
            have tg : decide (s q < s k) = false := decide_eq_false hgt
            clear hbest htk hgt hq
            generalize s q = x at *
            generalize s k = y at *
            go_wp2_with fail
            go_quiet (fail)
            try simp only [World.drewN_drewN]
            go_wp2_with fail
            go_roundw
            case rel => exact HS'.out _
            case measure => simp [intOf]; omega
    · have hkn : k = n := by omega
      subst hkn
      have tl : decide (k < k) = false := decide_eq_false (by omega)
      by_cases hq : q = 0
      · have tq : ((q : Int) == 0) = true := by rw [beq_iff_eq]; omega
        have HE : Hid (RPopPost g k cap s t w (.returned (.tuple #[.slice (some ⟨g, 0, none⟩) k cap, .int .i64 0, .bool false])) (w.drewN d)) := by
          refine .inl ⟨?_, rfl, ⟨rfl, rfl, rfl, Nat.le_refl _, fun _ _ => rfl⟩⟩
          rcases hbest with ⟨_, e⟩ | ⟨e, _⟩
          · exact e
          · omega
        clear hbest hq hlt
        go_wp2_with fail
        go_ret3
        exact HE.out
      · have tq : ((q : Int) == 0) = false := by rw [beq_eq_false_iff_ne]; omega
        have hb : FirstOf (k - 1) s t q ∧ q < k := by
          rcases hbest with ⟨e, _⟩ | ⟨e1, e2, e3, e4⟩
          · omega
          · exact ⟨⟨e1, by omega, e3, fun u u1 u2 hu => e4 u u1 (by omega) hu⟩, e2⟩
        obtain ⟨hf, hqn⟩ := hb
        obtain ⟨d0, d1⟩ := HR.out.cells hqn
        have hw := with_any (w.drewN d) (HR.out.same rfl) hn q hqn (s q) false
        rw [upd_self] at hw
        have HW := Lib.hid hw
        have HF := Lib.hid hf
        clear hbest hq hlt hf hw
        generalize hsq : s q = x at *
        have HSQ := Lib.hid hsq
        clear hsq
        go_wp2_with fail
        refine HW.out.mono ?_
        rintro e w1 ⟨z, rfl, g1, cap1, rfl, hR1, hg1, hB1⟩
        have HE : Hid (RPopPost g k cap s t w (.returned (.tuple #[.slice (some ⟨g1, 0, none⟩) k cap1, .int .i64 (q : Int), .bool true])) w1) :=
          .inr ⟨q, _, HF.out, rfl, g1, cap1, rfl, hR1, hg1, ⟨hB1.os, hB1.tape, hB1.output, hB1.size, hB1.block⟩⟩
        clear hR1 hB1 HW
        go_wp2_with fail
        go_ret3
        exact HE.out
end
end Go.Proofs.Ytffpggdbmfidcaa
