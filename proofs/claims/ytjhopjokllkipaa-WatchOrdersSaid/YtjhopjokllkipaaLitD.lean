/- The contracts of lit.Clean and lit.Resolve. -/
import Derived.Test.YtjhopjokllkipaaLitC
import Derived.Test.YtjhopjokllkipaaRefC
namespace Go.Proofs.Ytjhopjokllkipaa
open Go.Shelf Go.RowKit Go.Lib Go.Sort LitM

theorem allOne_in32 {xs : List Int} (h : allOne xs = true) : In32 xs := In32.of fun x hx => by
  have := (one_iff x).1 (allOne_mem h hx)
  omega
theorem Rd.drewN {k : IntKind} {w : World} {B n : Nat} {A : Option Addr} {xs : List Int} (h : Rd k w B A n xs) (q : Nat) : Rd k (w.drewN q) B A n xs := ⟨h.len, h.at_⟩
theorem below_drewN {B : Nat} {a w : World} (h : Below B a w) (n : Nat) : Below B a (w.drewN n) := ⟨h.os, h.tape, h.output, h.size, h.block⟩

theorem compact_nil (w : World) : Calls Try.prog 59 #[.slice none 0 0] w fun e w' => e = .returned (.slice none 0 0) ∧ w = w' := by
  go_enter Try.func59, Try.ntmps59
  go_wp2
  go_ret
  exact ⟨rfl, rfl⟩

/-- What lit.Clean comes to where all are literals. -/
def CleanYes (xs : List Int) (w : World) (e : Ending) (w' : World) : Prop :=
  ∃ A' m c' ys, e = .returned (.tuple #[.slice A' m c', .bool (bothB xs), .int .i64 0]) ∧ Rd .i32 w' w'.heap.size A' m ys ∧ IsClean xs ys ∧ Below w.heap.size w w'

set_option maxHeartbeats 1000000 in
theorem clean_yes (A : Option Addr) (n c : Nat) (xs : List Int) (w : World) (h : Rd .i32 w w.heap.size A n xs) (hn : n * 4 ≤ 100000000000000) (ha : allOne xs = true) :
    Calls Try.prog 30 #[.slice A n c] w (CleanYes xs w) := by
  have HA := Lib.hid ha
  have h32 := Lib.hid (allOne_in32 ha)
  have HL := Lib.hid h.len
  clear ha
  rcases A with _ | ad
  · have hn0 : n = 0 := by
      rcases Nat.eq_zero_or_pos n with h0 | h0
      · exact h0
      · obtain ⟨b, o, e, _⟩ := h.at_ h0; cases e
    subst hn0
    have hx : xs = [] := List.length_eq_zero_iff.1 h.len
    subst hx
    have H := Lib.hid h; clear h
    have hc1 := fun W => AnyE.slices_Clone_nil Try.cloneL 0 c W
    change ∀ W, Calls Try.prog 50 _ _ _ at hc1
    have C1 := Lib.hid hc1; clear hc1
    have hc2 := fun W => AnyF.slices_SortFunc_none (P := Try.prog) (ρ := Try.sortL_ren) { Try.sortL with } none 0 (.func (.func 58) #[] #[]) W
    change ∀ W, Calls Try.prog 57 _ _ _ at hc2
    have C2 := Lib.hid hc2; clear hc2
    have hb0 : bothB [] = false := rfl
    have hnb : nbB [] = false := by decide
    have HB0 := Lib.hid hb0
    have HNB := Lib.hid hnb
    clear hb0 hnb
    go_enter Try.func30, Try.ntmps30
    go_wp2_with fail
    refine (right_any none 0 c [] _ H.out h32.out (by omega)).mono ?_
    rintro e w' ⟨rfl, rfl⟩
    rw [HA.out]
    go_wp2_with fail
    refine (C1.out _).mono ?_
    rintro e w' ⟨rfl, rfl⟩
    go_wp2_with fail
    refine (C2.out _).mono ?_
    rintro e w' ⟨rfl, rfl⟩
    go_wp2_with fail
    refine (compact_nil _).mono ?_
    rintro e w' ⟨rfl, rfl⟩
    go_wp2_with fail
    refine (bothSigns_any none 0 0 [] _ 0 Rd.nil h32.out (by omega)).mono ?_
    rintro e w' ⟨rfl, q, rfl⟩
    rw [HNB.out]
    go_wp2_with fail
    go_ret3
    exact ⟨none, 0, 0, [], by rw [HB0.out]; rfl, Rd.nil, ⟨List.Pairwise.nil, by simp⟩, below_drewN (Below.refl _ _) _⟩
  · have H := Lib.hid h; clear h
    go_enter Try.func30, Try.ntmps30
    go_wp2_with fail
    refine (right_any (some ad) n c xs _ H.out h32.out (by omega)).mono ?_
    rintro e w' ⟨rfl, rfl⟩
    rw [HA.out]
    go_wp2_with fail
    refine (clone_some ad n c xs _ H.out (by omega)).mono ?_
    rintro e w1 ⟨v', rfl, hown, hne, hb1⟩
    obtain ⟨g, cap, rfl, hgb, hgl, hncap, hcm, _, _⟩ := holds_of_ownsRow hown hne
    have HOWN := Lib.hid hown
    have HB1 := Lib.hid hb1
    clear hown hne hb1
    go_wp2_with fail
    refine (sort_own g n cap w.heap.size xs _ HA.out (by omega) HOWN.out).mono ?_
    rintro e w2 ⟨rfl, zs, hzl, hzs, hzm, hH, hb2, hg2⟩
    have HH := Lib.hid hH
    have HCL := Lib.hid (compact_clean hzs hzm HA.out)
    have HB2 := Lib.hid (HB1.out.trans hb2)
    clear hzs hzm hH hb2
    have hbw := HB1.out.size
    obtain rfl : zs.length = n := hzl
    go_wp2_with fail
    refine (compact_own g cap w.heap.size zs _ w (by omega) hncap HH.out HB2.out hgb hg2).mono ?_
    rintro e w3 ⟨rfl, hR3, hB3⟩
    have HR3 := Lib.hid hR3
    have HB3 := Lib.hid hB3
    have hcl : (compact zs).length ≤ zs.length := compact_length_le zs
    have hall : allOne (compact zs) = true := by rw [HCL.out.all]; exact HA.out
    have HNB := Lib.hid ((nbB_both HCL.out.1 hall).trans HCL.out.both)
    have HI := Lib.hid (allOne_in32 hall)
    clear hR3 hB3 hall
    generalize compact zs = cs at *
    go_wp2_with fail
    refine (bothSigns_any (some ⟨g, 0, none⟩) cs.length cap cs _ _ HR3.out HI.out (by omega)).mono ?_
    rintro e w4 ⟨rfl, q, rfl⟩
    rw [HNB.out]
    go_wp2_with fail
    go_ret3
    exact ⟨_, _, cap, cs, rfl, HR3.out.drewN q, HCL.out, below_drewN HB3.out q⟩

theorem clean_no (A : Option Addr) (n c : Nat) (xs : List Int) (w : World) (h : Rd .i32 w w.heap.size A n xs) (hr : In32 xs) (hn : n * 4 ≤ 100000000000000) (ha : allOne xs = false) :
    Calls Try.prog 30 #[.slice A n c] w fun e w' => e = .returned (.tuple #[.slice none 0 0, .bool false, .int .i64 11]) ∧ w = w' := by
  have HA := Lib.hid ha; clear ha
  go_enter Try.func30, Try.ntmps30
  go_wp2_with fail
  refine (right_any A n c xs _ h hr (by omega)).mono ?_
  rintro e w' ⟨rfl, rfl⟩
  rw [HA.out]
  go_wp2_with fail
  go_ret3
  exact ⟨rfl, rfl⟩
end Go.Proofs.Ytjhopjokllkipaa
