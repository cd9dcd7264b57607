/- The plain answer's Grow, Bump, Push, Halve, New. -/
import Derived.Test.YtffpggdbmfidcaaEnt
import Derived.Test.YtffpggdbmfidcaaBump
namespace Go.Proofs.Ytffpggdbmfidcaa
open Go.RowKit HeapM

section
variable {g n cap : Nat} {s : Nat → Int} {t : Nat → Bool}
theorem RowE.alloc {w : World} (h : RowE w g n cap s t) (o : Obj) : RowE (w.alloc o) g n cap s t := h.same (Below.heap_alloc _ _ _ h.lt)
/-- An entry in a block of its own. -/
theorem one_news (w : World) (x : Int) (y : Bool) : ∀ j u, [Value.int .i64 x, Value.bool y][j]? = some u → (w.alloc (.cells #[.int .i64 x, .bool y] 44)).cell? ((⟨w.heap.size, 0, none⟩ : Addr).add j) = some u := by
  intro j u hj
  have ha : ((⟨w.heap.size, 0, none⟩ : Addr).add j) = ⟨w.heap.size, j, none⟩ := by unfold Addr.add; split <;> simp_all
  rw [ha, Lib.cell_of_heap (cs := #[.int .i64 x, .bool y]) (T := 44) (fr := (0, 0)) (by show (w.heap.push _)[w.heap.size]? = _; simp)]
  rw [← Array.getElem?_toList]; exact hj
theorem one_plain (x : Int) (y : Bool) : ∀ u ∈ [Value.int .i64 x, Value.bool y], u.oneCell' = true := by
  intro u hu
  simp only [List.mem_cons, List.not_mem_nil, or_false] at hu
  rcases hu with rfl | rfl <;> rfl
theorem own_kept {w w' : World} {base g n cap : Nat} (h : RowE w g n cap s t) (hb : base ≤ g) (hk : w'.heap[g]? = w.heap[g]?) : w'.ownsRow base 44 2 (.slice (some ⟨g, 0, none⟩) n cap) n (cellsE s t n) := by
  obtain ⟨cur, hh, h1, h2, h3, h4⟩ := h
  exact ⟨cellsE_length s t n, .inr ⟨g, cap, cur, rfl, hb, hk.trans hh, h1, h2, h3, h4⟩⟩

/-- What Grow answers. -/
def RGrowPost (n : Nat) (s : Nat → Int) (t : Nat → Bool) (w : World) (e : Ending) (w' : World) : Prop := ∃ z, e = .returned (.tuple #[z, .int .i64 (n : Int)]) ∧ EntTo (n + 1) (upd s n 0) (upd t n true) w z w'
set_option maxHeartbeats 3200000 in
set_option maxRecDepth 100000 in
theorem rgrow_any (w : World) (h : RowE w g n cap s t) (hn : n ≤ 1000) (hn1 : 1 ≤ n) :
    Calls Try.prog 21 #[.slice (some ⟨g, 0, none⟩) n cap] w (RGrowPost n s t w) := by
  have hb1 : Below w.heap.size w (w.alloc (.cells #[] 44)) := (Below.refl _ _).alloc (Nat.le_refl _) _
  have hown : (w.alloc (.cells #[] 44)).ownsRow w.heap.size 44 2 (.slice (some ⟨w.heap.size, 0, none⟩) 0 0) 0 [] :=
    World.ownsRow_made (e := 44) (size := 2) w #[] 0 (Nat.le_refl _) (Nat.zero_le _) (by simp)
  have HOW := Lib.hid hown
  have HR1 := Lib.hid (h.below hb1)
  have HB1 := Lib.hid hb1
  have t1 : decide (262144 < n) = false := decide_eq_false (by omega)
  have t2 : decide ((262144 : Int) < (n : Int)) = false := decide_eq_false (by omega)
  clear h hb1 hown
  go_enter Try.func21, Try.ntmps21
  go_wp2_with (at_builtin; refine wpList_append_ent _ rfl _ _ rfl w.heap.size _ 0 [] rfl HOW.out g n cap (cellsE s t n) rfl (cellsE_length s t n) HR1.out.news (cellsE_one s t n) (by omega) (by simp) ?_)
  intro v' w1 hown1 hB1
  have hown1' : w1.ownsRow w.heap.size 44 2 v' n (cellsE s t n) := by simpa using hown1
  obtain ⟨g1, cap1, rfl, hg1, hR1⟩ := RowE.of_own (by omega) hown1'
  have HB2 := Lib.hid (HB1.out.trans hB1)
  have HO2 := Lib.hid (own_kept (hR1.alloc (.cells #[.int .i64 0, .bool true] 44)) hg1 rfl)
  have HZ := Lib.hid HB2.out.size
  clear hown1 hown1' hB1 HOW HR1 HB1 hR1
  go_wp2_with (at_builtin; refine wpList_append_ent _ rfl _ _ rfl w.heap.size _ n (cellsE s t n) rfl HO2.out w1.heap.size 1 1 [.int .i64 0, .bool true] rfl rfl (one_news w1 0 true) (one_plain 0 true) (by omega) (by have := HZ.out; simp; omega) ?_)
  intro v2 w2 hown2 hB2
  rw [cellsE_upd] at hown2
  obtain ⟨g2, cap2, rfl, hg2, hR2⟩ := RowE.of_own (by omega) hown2
  have HE : Hid (EntTo (n + 1) (upd s n 0) (upd t n true) w (.slice (some ⟨g2, 0, none⟩) (n + 1) cap2) w2) :=
    ⟨g2, cap2, rfl, hR2, hg2, (HB2.out.alloc HZ.out _).trans hB2⟩
  clear hown2 hB2 hR2 HO2 HB2
  go_wp2_with fail
  go_ret2
  exact ⟨_, rfl, HE.out⟩

/-- What Bump and Push answer at what there is. -/
def RAtPost (n : Nat) (s : Nat → Int) (t : Nat → Bool) (w : World) (e : Ending) (w' : World) : Prop := ∃ z, e = .returned (.tuple #[z, .int .i64 0]) ∧ EntTo n s t w z w'
theorem upd_self {α : Type} (f : Nat → α) (i : Nat) : upd f i (f i) = f := by
  funext k; unfold upd; split
  · rename_i e; rw [e]
  · rfl

set_option maxHeartbeats 3200000 in
set_option maxRecDepth 100000 in
theorem rbump_yes (w : World) (h : RowE w g n cap s t) (hn : n ≤ 1000) (v : Nat) (y : Int) (h1 : 1 ≤ v) (h2 : v < n) (hy0 : 0 ≤ y) (hy1 : y ≤ 1152921504606846976) (hx0 : 0 ≤ s v) (hx1 : s v ≤ 1152921504606846976) :
    Calls Try.prog 14 #[.slice (some ⟨g, 0, none⟩) n cap, .int .i64 v, .int .i64 y] w (RAtPost n (upd s v (moreS (s v) y)) t w) := by
  have HT := Lib.hid (there_any (some ⟨g, 0, none⟩) n cap v w hn (by omega))
  rw [(inB_iff (n - 1) (v : Int)).2 ⟨by omega, by omega⟩] at HT
  obtain ⟨c0, c1⟩ := h.cells h2
  have HW := Lib.hid (with_any w h hn v h2 (moreS (s v) y) (t v))
  rw [upd_self] at HW
  have hcap := h.bd
  obtain ⟨hcap1, hcap2⟩ := hcap
  have ta : (y < 0) = False := by simp; omega
  have tb : decide (1152921504606846976 < y) = false := decide_eq_false (by omega)
  clear h
  generalize hsx : upd s v (moreS (s v) y) = s' at *
  have HSX := Lib.hid hsx
  clear hsx
  generalize s v = x at *
  generalize t v = q at *
  by_cases hle : x + y ≤ 1152921504606846976
  · have hm : moreS x y = x + y := by unfold moreS; omega
    rw [hm] at HW
    have tc : decide (1152921504606846976 < x + y) = false := decide_eq_false (by omega)
    clear hm hle
    go_enter Try.func14, Try.ntmps14
    go_wp2_with fail
    refine HT.out.mono ?_
    rintro e w' ⟨rfl, rfl⟩
    go_wp2_with fail
    refine HW.out.mono ?_
    rintro e w1 ⟨z, rfl, hz⟩
    have HZ := Lib.hid hz
    clear hz HW HT
    go_wp2_with fail
    go_ret2
    exact ⟨z, rfl, HZ.out⟩
  · have hm : moreS x y = 1152921504606846976 := by unfold moreS; omega
    rw [hm] at HW
    have tc : decide (1152921504606846976 < x + y) = true := decide_eq_true (by omega)
    clear hm hle
    go_enter Try.func14, Try.ntmps14
    go_wp2_with fail
    refine HT.out.mono ?_
    rintro e w' ⟨rfl, rfl⟩
    go_wp2_with fail
    refine HW.out.mono ?_
    rintro e w1 ⟨z, rfl, hz⟩
    have HZ := Lib.hid hz
    clear hz HW HT
    go_wp2_with fail
    go_ret2
    exact ⟨z, rfl, HZ.out⟩

set_option maxHeartbeats 3200000 in
set_option maxRecDepth 100000 in
theorem rbump_no (w : World) (A : Option Addr) (hn : n ≤ 1000) (hn1 : 1 ≤ n) (v y : Int) (hb : ¬ (inB (n - 1) v = true ∧ 0 ≤ y ∧ y ≤ 1152921504606846976)) :
    Calls Try.prog 14 #[.slice A n cap, .int .i64 v, .int .i64 y] w fun e w' => e = .returned (.tuple #[.slice A n cap, .int .i64 31]) ∧ w = w' := by
  have HT := Lib.hid (there_any A n cap v w hn hn1)
  rcases hv : inB (n - 1) v
  · rw [hv] at HT
    clear hb hv
    go_enter Try.func14, Try.ntmps14
    go_wp2_with fail
    refine HT.out.mono ?_
    rintro e w' ⟨rfl, rfl⟩
    go_wp2_with fail
    go_ret2
    exact ⟨rfl, rfl⟩
  · rw [hv] at HT hb
    by_cases hy : y < 0
    · clear hb hv
      go_enter Try.func14, Try.ntmps14
      go_wp2_with fail
      refine HT.out.mono ?_
      rintro e w' ⟨rfl, rfl⟩
      go_wp2_with fail
      go_ret2
      exact ⟨rfl, rfl⟩
    · have ta : (y < 0) = False := by simp; omega
      have tb : decide (1152921504606846976 < y) = true := decide_eq_true (by simp at hb; omega)
      clear hb hv hy
      go_enter Try.func14, Try.ntmps14
      go_wp2_with fail
      refine HT.out.mono ?_
      rintro e w' ⟨rfl, rfl⟩
      go_wp2_with fail
      go_ret2
      exact ⟨rfl, rfl⟩

set_option maxHeartbeats 3200000 in
set_option maxRecDepth 100000 in
theorem rpush_yes (w : World) (h : RowE w g n cap s t) (hn : n ≤ 1000) (v : Nat) (h1 : 1 ≤ v) (h2 : v < n) :
    Calls Try.prog 17 #[.slice (some ⟨g, 0, none⟩) n cap, .int .i64 v] w (RAtPost n s (upd t v true) w) := by
  have HT := Lib.hid (there_any (some ⟨g, 0, none⟩) n cap v w hn (by omega))
  rw [(inB_iff (n - 1) (v : Int)).2 ⟨by omega, by omega⟩] at HT
  obtain ⟨c0, c1⟩ := h.cells h2
  have HW := Lib.hid (with_any w h hn v h2 (s v) true)
  rw [upd_self] at HW
  have hcap := h.bd
  obtain ⟨hcap1, hcap2⟩ := hcap
  clear h
  go_enter Try.func17, Try.ntmps17
  go_wp2_with fail
  refine HT.out.mono ?_
  rintro e w' ⟨rfl, rfl⟩
  go_wp2_with fail
  refine HW.out.mono ?_
  rintro e w1 ⟨z, rfl, hz⟩
  have HZ := Lib.hid hz
  clear hz HW HT
  go_wp2_with fail
  go_ret2
  exact ⟨z, rfl, HZ.out⟩
set_option maxHeartbeats 3200000 in
set_option maxRecDepth 100000 in
theorem rpush_no (w : World) (A : Option Addr) (hn : n ≤ 1000) (hn1 : 1 ≤ n) (v : Int) (hb : inB (n - 1) v = false) :
    Calls Try.prog 17 #[.slice A n cap, .int .i64 v] w fun e w' => e = .returned (.tuple #[.slice A n cap, .int .i64 31]) ∧ w = w' := by
  have HT := Lib.hid (there_any A n cap v w hn hn1)
  rw [hb] at HT
  clear hb
  go_enter Try.func17, Try.ntmps17
  go_wp2_with fail
  refine HT.out.mono ?_
  rintro e w' ⟨rfl, rfl⟩
  go_wp2_with fail
  go_ret2
  exact ⟨rfl, rfl⟩
end
end Go.Proofs.Ytffpggdbmfidcaa
