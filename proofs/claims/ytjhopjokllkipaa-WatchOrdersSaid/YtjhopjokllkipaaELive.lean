/- One engine of a law's own: what its calls leave; watchAlive is true. -/
import Derived.Test.YtjhopjokllkipaaENew
import Derived.Test.YtjhopjokllkipaaEngD
namespace Go.Proofs.Ytjhopjokllkipaa
open Go.RowKit LitM TrailM EngM

section
variable {B b b1 b2 : Nat} {w0 w : World} {S S1 S2 : Eng}
theorem Solo.inv (h : Solo B w0 w b S) : Inv S := by obtain ⟨q, hE, hI, _⟩ := h; exact hI
theorem Solo.out (h : Solo B w0 w b S) : Below B w0 w := by obtain ⟨q, hE, hI, hB, h0, hs⟩ := h; exact h0
theorem Solo.fix (h : Solo B w0 w b S) {S' : Eng} (e : S = S') : Solo B w0 w b S' := e ▸ h
/-- What an Add of a law's own leaves. -/
def SAdd (B : Nat) (w0 : World) (b : Nat) (S : Eng) (xs : List Int) (e : Ending) (w' : World) : Prop :=
  (fitsB S.n xs = false ∧ e = .returned (.tuple #[.int .i64 0, .int .i64 51]) ∧ Solo B w0 w' b S) ∨
  (fitsB S.n xs = true ∧ e = .returned (.tuple #[.int .i64 (S.cs.length : Int), .int .i64 0]) ∧ ∃ ys, IsClean xs ys ∧ Solo B w0 w' b (addF S ys (bothB xs)))
theorem clean_le {xs ys : List Int} (h : IsClean xs ys) : ys.length ≤ xs.length := clean_len (k := xs.length) (by rw [List.take_length]; exact h)
theorem Solo.add (h : Solo B w0 w b S) (hcn : S.cs.length ≤ 20000) (A : Option Addr) (n c : Nat) (xs : List Int) (hr : Rd .i32 w w.heap.size A n xs) (h32 : In32 xs) (hm : n ≤ 10000) :
    Calls Try.prog 9 #[.pointer (some ⟨b, 0, none⟩), .slice A n c] w (SAdd B w0 b S xs) := by
  obtain ⟨q, hE, hI, hB, h0, hs⟩ := h
  have hsm := hI.small
  have hl := hr.len
  refine (add_any hE hsm.n (by omega) (by have := hsm.ln; omega) A n c xs hr h32 hm).mono fun e w' ht => ?_
  rcases ht with ⟨a, e1, q', hE', hX⟩ | ⟨a, e1, q', ys, hc, hE', hX⟩
  · exact .inl ⟨a, e1, Solo.to hB h0 hs hE' hI hX⟩
  · exact .inr ⟨a, e1, ys, hc, Solo.to hB h0 hs hE' (inv_add hI a hc (by have := clean_le hc; omega)) hX⟩
/-- An Add that fits. -/
theorem Solo.addYes (h : Solo B w0 w b S) (hcn : S.cs.length ≤ 20000) (A : Option Addr) (n c : Nat) (xs ys : List Int) (hr : Rd .i32 w w.heap.size A n xs) (h32 : In32 xs) (hm : n ≤ 10000) (hf : fitsB S.n xs = true) (hc : IsClean xs ys) :
    Calls Try.prog 9 #[.pointer (some ⟨b, 0, none⟩), .slice A n c] w fun e w' => e = .returned (.tuple #[.int .i64 (S.cs.length : Int), .int .i64 0]) ∧ Solo B w0 w' b (addF S ys (bothB xs)) := by
  refine (h.add hcn A n c xs hr h32 hm).mono fun e w' ht => ?_
  rcases ht with ⟨a, _⟩ | ⟨_, e1, ys', hc', h'⟩
  · rw [hf] at a; cases a
  · rw [hc.unique hc']; exact ⟨e1, h'⟩
theorem Solo.addNo (h : Solo B w0 w b S) (hcn : S.cs.length ≤ 20000) (A : Option Addr) (n c : Nat) (xs : List Int) (hr : Rd .i32 w w.heap.size A n xs) (h32 : In32 xs) (hm : n ≤ 10000) (hf : fitsB S.n xs = false) :
    Calls Try.prog 9 #[.pointer (some ⟨b, 0, none⟩), .slice A n c] w fun e w' => e = .returned (.tuple #[.int .i64 0, .int .i64 51]) ∧ Solo B w0 w' b S := by
  refine (h.add hcn A n c xs hr h32 hm).mono fun e w' ht => ?_
  rcases ht with ⟨_, e1, h'⟩ | ⟨a, _⟩
  · exact ⟨e1, h'⟩
  · rw [hf] at a; cases a
/-- What Decide leaves of an engine. -/
def decE (S : Eng) (l : Int) : Eng := if errZ S.n S.L l = 0 then decideF S l else S
theorem inv_decE {S : Eng} (h : Inv S) (l : Int) : Inv (decE S l) := by
  unfold decE
  split
  · exact inv_decide h (by assumption)
  · exact h
theorem Solo.decide (h : Solo B w0 w b S) (l : Int) (l0 : -2147483648 ≤ l) (l1 : l ≤ 2147483647) :
    Calls Try.prog 14 #[.pointer (some ⟨b, 0, none⟩), .int .i32 l] w fun e w' => e = .returned (.int .i64 (eErr S l)) ∧ Solo B w0 w' b (decE S l) := by
  obtain ⟨q, hE, hI, hB, h0, hs⟩ := h
  refine (edecide_any hE rfl hI.small.n l l0 l1).mono fun e w' ht => ⟨ht.1, ?_⟩
  unfold decE
  rcases ht.2 with ⟨a, rfl⟩ | ⟨a, q', hE', hX⟩
  · rw [if_neg a]; exact ⟨q, hE, hI, hB, h0, hs⟩
  · rw [if_pos a]
    have hl : (decideF S l).le.length = S.le.length + 1 := by simp [decideF]
    exact Solo.to hB h0 hs (by rw [hl]; exact hE') (inv_decide hI a) hX
theorem prop_len (h : Inv S) : (propF S).1.le.length = S.le.length := (inv_prop h).2.1.le
theorem Solo.prop (h : Solo B w0 w b S) (hcn : S.cs.length ≤ 20000) :
    Calls Try.prog 10 #[.pointer (some ⟨b, 0, none⟩)] w fun e w' => e = .returned (.int .i64 (propF S).2) ∧ Solo B w0 w' b (propF S).1 := by
  obtain ⟨q, hE, hI, hB, h0, hs⟩ := h
  refine (prop_any hE hI rfl hcn).mono fun e w' ⟨he, q', hE', hX⟩ => ⟨he, Solo.to hB h0 hs (by rw [prop_len hI]; exact hE') (inv_prop hI).1 hX⟩
/-- What the trail's own calls answer. -/
theorem Solo.asks (h : Solo B w0 w b S) : ∃ bt, w.cell? ⟨b, 0, none⟩ = some (.pointer (some ⟨bt, 0, none⟩)) ∧
    (∀ l, -2147483648 ≤ l → l ≤ 2147483647 → Calls Try.prog 12 #[.pointer (some ⟨bt, 0, none⟩), .int .i32 l] w fun e w' => e = .returned (.int .i64 (valZ S.L l)) ∧ w = w') ∧
    (∀ v, Calls Try.prog 37 #[.pointer (some ⟨bt, 0, none⟩), .int .i64 v] w fun e w' => e = .returned (.int .i64 (levZ S.L v)) ∧ w = w') ∧
    (∀ v, Calls Try.prog 22 #[.pointer (some ⟨bt, 0, none⟩), .int .i64 v] w fun e w' => e = .returned (.int .i64 (reaZ S.L v)) ∧ w = w') ∧
    (Calls Try.prog 26 #[.pointer (some ⟨bt, 0, none⟩)] w fun e w' => e = .returned (.int .i64 (S.n : Int)) ∧ w = w') ∧
    (Calls Try.prog 24 #[.pointer (some ⟨bt, 0, none⟩)] w fun e w' => e = .returned (.int .i64 (S.le.length : Int)) ∧ w = w') := by
  obtain ⟨q, hE, hI, hB, h0, hs⟩ := h
  have hn := hI.small.n
  obtain ⟨F, gm, cm, ao, co, az, cz, hQ, hO, _⟩ := hE.trail
  exact ⟨q.bt, hE.h0, fun l l0 l1 => tvalue_nat w hQ hO.pre (by omega) l l0 l1, fun v => tlevel_nat w hQ hO.pre (by omega) v, fun v => treason_nat w hQ hO.pre (by omega) v, tvars_nat w hQ (by omega), tdepth_nat w hQ⟩
end
/-- Literals in a block that was just made. -/
theorem rd_made (w : World) (xs : List Int) : Rd .i32 (w.alloc (.cells (xs.map (Value.int .i32)).toArray 27)) (w.alloc (.cells (xs.map (Value.int .i32)).toArray 27)).heap.size (some ⟨w.heap.size, 0, none⟩) xs.length xs :=
  ⟨rfl, fun _ => ⟨w.heap.size, 0, rfl, by simp, fun j hj => by
    rw [Nat.zero_add, Lib.cell_of_heap (blk_new w _) j]
    rw [List.getElem?_toArray, List.getElem?_map, List.getElem?_eq_getElem hj, List.getD, List.getElem?_eq_getElem hj]; rfl⟩⟩
set_option maxHeartbeats 1600000 in
set_option maxRecDepth 100000 in
theorem walive_any (w : World) : Calls Try.prog 11 #[] w fun e w' => e = .returned (.bool true) ∧ Below w.heap.size w w' := by
  have c12 : IsClean [1, 2] [1, 2] := ⟨by decide, fun x => Iff.rfl⟩
  go_enter Try.func11, Try.ntmps11
  go_wp2_with fail
  refine (enew_any 2 w (by omega)).mono ?_
  intro e w1 hm
  obtain ⟨b, rfl, h1⟩ := Solo.make hm (by decide) (Below.refl w.heap.size w) (Nat.le_refl _)
  rw [show (2 : Int).toNat = 2 from rfl] at h1
  clear hm
  have h1a := h1.below ((Below.refl _ _).alloc (Nat.le_refl _) (.cells #[.int .i32 1, .int .i32 2] 27))
  have HA := Lib.hid (h1a.addYes (by decide) (some ⟨w1.heap.size, 0, none⟩) 2 2 [1, 2] [1, 2] (rd_made w1 [1, 2]) (In32.of (by simp)) (by omega) (by decide) c12)
  rw [show ((newE 2).cs.length : Int) = 0 from rfl, show bothB [1, 2] = false from by decide] at HA
  clear h1 h1a
  go_wp2_with fail
  refine HA.out.mono ?_
  rintro e w2 ⟨rfl, h2⟩
  have HD := Lib.hid (h2.decide (-1) (by omega) (by omega))
  rw [show eErr (addF (newE 2) [1, 2] false) (-1) = 0 from by decide] at HD
  clear h2 HA
  go_wp2_with fail
  refine HD.out.mono ?_
  rintro e w3 ⟨rfl, h3⟩
  have HP := Lib.hid (h3.prop (by decide))
  obtain ⟨P, hP⟩ : ∃ P, P = propF (decE (addF (newE 2) [1, 2] false) (-1)) := ⟨_, rfl⟩
  rw [← hP] at HP
  have p2 : P.2 = -1 := by rw [hP]; decide
  have v2 : valZ P.1.L 2 = 1 := by rw [hP]; decide
  have r2 : reaZ P.1.L 2 = 0 := by rw [hP]; decide
  have l2 : levZ P.1.L 2 = 1 := by rw [hP]; decide
  rw [p2] at HP
  have HV := Lib.hid (show _ ∧ _ ∧ _ from ⟨v2, r2, l2⟩)
  clear h3 HD hP p2 v2 r2 l2
  go_wp2_with fail
  refine HP.out.mono ?_
  rintro e w4 ⟨rfl, h4⟩
  obtain ⟨bt, a0, aV, aL, aR, _, _⟩ := h4.asks
  have HB := Lib.hid h4.out
  have HQV := Lib.hid (aV 2 (by omega) (by omega))
  have HQL := Lib.hid (aL 2)
  have HQR := Lib.hid (aR 2)
  rw [HV.out.1] at HQV
  rw [HV.out.2.1] at HQR
  rw [HV.out.2.2] at HQL
  clear h4 aV aL aR HP HV
  go_wp2_with fail
  refine HQV.out.mono ?_
  rintro e w' ⟨rfl, rfl⟩
  go_wp2_with fail
  refine HQR.out.mono ?_
  rintro e w' ⟨rfl, rfl⟩
  go_wp2_with fail
  refine HQL.out.mono ?_
  rintro e w' ⟨rfl, rfl⟩
  go_wp2_with fail
  go_ret
  exact ⟨rfl, HB.out⟩
end Go.Proofs.Ytjhopjokllkipaa
