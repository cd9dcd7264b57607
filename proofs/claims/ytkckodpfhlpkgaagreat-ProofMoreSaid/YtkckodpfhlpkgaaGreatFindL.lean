/- slices.IndexFunc and slices.ContainsFunc at literals, whatever the function value, where it only reads. -/
import Derived.Test.YtkckodpfhlpkgaaGreatVar
import Derived.Test.YtkckodpfhlpkgaaGreatRd
import Derived.Lib.SliceRun
import Derived.Shelf.Abstract
namespace Go.Proofs.YtkckodpfhlpkgaaGreat
open Go.RowKit LitM

/-- Function g, with the captured lb, says p of the number x, in w and wherever only draws have gone by. -/
def Says (g : Nat) (lb : Array Value) (enc : Int → Value) (p : Int → Bool) (w : World) (x : Int) : Prop :=
  ∀ q : Nat, Calls Tryz.prog g (#[enc x] ++ lb) (w.drewN q) fun e w' => e = .returned (.bool (p x)) ∧ ∃ q', w' = w.drewN q'
/-- Where the first one is at which p holds; -1, if there is none. -/
def findI (p : Int → Bool) : List Int → Int
  | [] => -1
  | x :: xs => if p x then 0 else if findI p xs = -1 then -1 else findI p xs + 1
theorem findI_ge (p : Int → Bool) : ∀ xs, -1 ≤ findI p xs
  | [] => by simp [findI]
  | x :: xs => by
    have := findI_ge p xs
    unfold findI
    split
    · omega
    · split <;> omega
theorem findI_at (p : Int → Bool) : ∀ (xs : List Int) (k : Nat), k < xs.length → p (xs.getD k 0) = true → (∀ j, j < k → p (xs.getD j 0) = false) → findI p xs = k
  | [], k, h, _, _ => absurd h (by simp)
  | x :: xs, 0, _, h, _ => by
    have : p x = true := by simpa using h
    simp [findI, this]
  | x :: xs, k + 1, hk, h, hall => by
    have h0 : p x = false := by simpa using hall 0 (by omega)
    have ih := findI_at p xs k (by simpa using hk) (by simpa using h) (fun j hj => by simpa using hall (j + 1) (by omega))
    unfold findI
    rw [h0, ih]
    simp
theorem findI_no (p : Int → Bool) : ∀ (xs : List Int), (∀ j, j < xs.length → p (xs.getD j 0) = false) → findI p xs = -1
  | [], _ => rfl
  | x :: xs, hall => by
    have h0 : p x = false := by simpa using hall 0 (by simp)
    have ih := findI_no p xs (fun j hj => by simpa using hall (j + 1) (by simpa using hj))
    unfold findI
    rw [h0, ih]
    simp
theorem findI_any (p : Int → Bool) (xs : List Int) : decide (0 ≤ findI p xs) = xs.any p := by
  induction xs with
  | nil => rfl
  | cons x xs ih =>
    have := findI_ge p xs
    unfold findI
    rw [List.any_cons, ← ih]
    by_cases h : p x = true
    · simp [h]
    · simp only [Bool.not_eq_true] at h
      rw [h]
      simp only [Bool.false_eq_true, if_false, Bool.false_or]
      by_cases h1 : findI p xs = -1
      · rw [if_pos h1, h1]
      · rw [if_neg h1]
        have a : 0 ≤ findI p xs + 1 := by omega
        have b : 0 ≤ findI p xs := by omega
        simp [a, b]

set_option maxHeartbeats 800000 in
theorem indexL_any (g : Nat) (lb : Array Value) (p : Int → Bool) (eg : ∀ args w, (callFunc g args).run Tryz.prog w = .ok (.enter g args) w) (A : Option Addr) (n c : Nat) (xs : List Int) (w : World) (B : Nat)
    (h : Rd .i32 w B A n xs) (hn : n ≤ 9223372036854775807) (hp : ∀ j, j < n → Says g lb (Value.int .i32) p w (xs.getD j 0)) :
    Calls Tryz.prog 47 #[.slice A n c, .func (.func g) #[] lb] w fun e w' => e = .returned (.int .i64 (findI p xs)) ∧ ∃ q, w' = w.drewN q := by
  have HL := Lib.hid h.len
  have HP := Lib.hid hp
  clear hp
  go_enter Tryz.func47, Tryz.ntmps47
  go_wp2
  go_loopw [5, 8] (fun _ i wr => ∃ k q : Nat, k ≤ n ∧ i = .int .i64 k ∧ wr = w.drewN q ∧ ∀ j, j < k → p (xs.getD j 0) = false) (fun _ i _ => n - (intOf i).toNat)
  case atStart => exact ⟨0, 0, Nat.zero_le _, rfl, rfl, fun j hj => absurd hj (by omega)⟩
  case round =>
    obtain ⟨k, q, hk, rfl, rfl, hall⟩ := hrel
    have HA := Lib.hid hall; clear hall
    by_cases hlt : k < n
    · obtain ⟨b, o, rfl, hb, hc⟩ := h.get hlt
      have HC := Lib.hid (HP.out k hlt q)
      rcases hx : p (xs.getD k 0) with _ | _
      · have HX : Hid (p (xs.getD k 0) = false) := hx
        have HXx := HC.out
        rw [hx] at HXx
        have HC2 := Lib.hid HXx
        clear HXx hx
        generalize hxk : xs.getD k 0 = x at *
        have HXK := Lib.hid hxk; clear hxk
        go_wp2_with (go_at_fn g; refine HC2.out.mono ?_; rintro e w' ⟨rfl, q', rfl⟩)
        go_roundw
        case rel =>
          refine ⟨k + 1, _, by omega, by go_num, rfl, fun j hj => ?_⟩
          by_cases e : j = k
          · rw [e, HXK.out]; exact HX.out
          · exact HA.out j (by omega)
        case measure => simp [intOf]; omega
      · have EV := Lib.hid (findI_at p xs k (by rw [HL.out]; exact hlt) hx HA.out)
        have HXx := HC.out
        rw [hx] at HXx
        have HC2 := Lib.hid HXx
        clear HXx hx
        generalize hxk : xs.getD k 0 = x at *
        have HXK := Lib.hid hxk; clear hxk
        go_wp2_with (go_at_fn g; refine HC2.out.mono ?_; rintro e w' ⟨rfl, q', rfl⟩)
        go_ret
        exact ⟨ret_int (by rw [EV.out]), _, rfl⟩
    · have EV := Lib.hid (findI_no p xs fun j hj => HA.out j (by rw [HL.out] at hj; omega))
      go_wp2
      go_ret
      exact ⟨ret_int (by rw [EV.out]), _, rfl⟩

set_option maxHeartbeats 400000 in
theorem containsL_any (g : Nat) (lb : Array Value) (p : Int → Bool) (eg : ∀ args w, (callFunc g args).run Tryz.prog w = .ok (.enter g args) w) (A : Option Addr) (n c : Nat) (xs : List Int) (w : World) (B : Nat)
    (h : Rd .i32 w B A n xs) (hn : n ≤ 9223372036854775807) (hp : ∀ j, j < n → Says g lb (Value.int .i32) p w (xs.getD j 0)) :
    Calls Tryz.prog 26 #[.slice A n c, .func (.func g) #[] lb] w fun e w' => e = .returned (.bool (xs.any p)) ∧ ∃ q, w' = w.drewN q := by
  have hI := indexL_any g lb p eg A n c xs w B h hn hp
  have hge := findI_ge p xs
  have EV := Lib.hid (findI_any p xs)
  generalize findI p xs = r at *
  have HI := Lib.hid hI; clear hI hp
  by_cases hr : 0 ≤ r
  all_goals
    go_enter Tryz.func26, Tryz.ntmps26
    go_wp2_with fail
    refine HI.out.mono ?_
    rintro e w' ⟨rfl, q, rfl⟩
    go_wp2_with fail
    go_ret
    exact ⟨ret_bool (by rw [← EV.out]; first | done | simp [hr]), _, rfl⟩
end Go.Proofs.YtkckodpfhlpkgaaGreat
