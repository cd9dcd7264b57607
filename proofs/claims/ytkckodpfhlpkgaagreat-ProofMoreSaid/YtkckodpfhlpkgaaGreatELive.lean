/- The contract of watch.New; one engine, two engines of a law's own. One engine of a law's own: what its calls leave; watchAlive is true. The contracts of an engine's present, leantOn; of a Remove that is refused. The contract of an engine's Remove; of a Back that is refused. The contracts of an engine's Clause and True, and of Grow. -/
import Derived.Test.YtkckodpfhlpkgaaGreatEProp
import Derived.Test.YtkckodpfhlpkgaaGreatEngB
import Derived.Test.YtkckodpfhlpkgaaGreatEHas
import Derived.Test.YtkckodpfhlpkgaaGreatEAno
namespace Go.Proofs.YtkckodpfhlpkgaaGreat
open Go.RowKit LitM TrailM EngM

/-- What New leaves. -/
def NewETo (n : Nat) (w : World) (e : Ending) (w' : World) : Prop :=
  ∃ b q, e = .returned (.pointer (some ⟨b, 0, none⟩)) ∧ E6 w' b q (newE n) 0 ∧ (∀ k, q.own k ≠ .no → w.heap.size ≤ k) ∧ Below w.heap.size w w'
theorem newE_of {n : Nat} {w w1 : World} {bt : Nat} {F : Nat → Prop} (hT : TrailAt w1 bt F n 0 []) (hF : ∀ k, F k → w.heap.size ≤ k) (hB : Below w.heap.size w w1) :
    NewETo n w (.returned (.pointer (some ⟨w1.heap.size, 0, none⟩))) (w1.alloc (.cells #[.pointer (some ⟨bt, 0, none⟩), .slice none 0 0, .slice none 0 0, .slice none 0 0, .int .i64 0, .slice none 0 0] 81)) := by
  classical
  have hlt := hT.foot
  refine ⟨w1.heap.size, ⟨fun k => if k = w1.heap.size then .eng else if F k then .trail else .no, bt, none, 0, none, 0, none, 0, none, 0, fun _ => (none, 0), fun _ => (none, 0), fun _ => (none, 0)⟩, rfl, ⟨blk_new _ _, by simp, ⟨F, hT.below ((Below.refl _ _).alloc (Nat.le_refl _) _), fun k hk => ?_⟩, Part.nil _ _ _ _ _ _, fun i hi => (by cases hi), Part.nil _ _ _ _ _ _, Part.nil _ _ _ _ _ _, fun p hp => (by cases hp), Part.nil _ _ _ _ _ _, fun k hk => (by cases hk), fun k hk => ?_⟩, fun k hk => ?_, hB.alloc hB.size _⟩
  · have := hlt k hk
    simp only
    rw [if_neg (by omega), if_pos hk]
  · have hk : w1.heap.size + 1 ≤ k := by simpa using hk
    simp only
    rw [if_neg (by omega), if_neg (fun e => by have := hlt k e; omega)]
  · simp only at hk
    by_cases e : k = w1.heap.size
    · rw [e]; exact hB.size
    · rw [if_neg e] at hk
      by_cases e2 : F k
      · exact hF k e2
      · rw [if_neg e2] at hk; exact absurd rfl hk
set_option maxHeartbeats 1600000 in
set_option maxRecDepth 100000 in
theorem enew_any (v : Int) (w : World) (hv : v ≤ 100000) : Calls Tryz.prog 64 #[.int .i64 v] w (NewETo v.toNat w) := by
  have HT := Lib.hid (tnew_any v w hv)
  generalize v.toNat = n at *
  go_enter Tryz.func64, Tryz.ntmps64
  go_wp2_with fail
  refine HT.out.mono ?_
  rintro e w1 ⟨bt, F, rfl, hT, hF, hB⟩
  have HE := Lib.hid (newE_of hT hF hB)
  clear hT hF hB HT
  go_wp2_with fail
  go_ret
  exact HE.out

/-- One engine of a law's own. -/
def Solo (B : Nat) (w0 w : World) (b : Nat) (S : Eng) : Prop :=
  ∃ q, E6 w b q S S.le.length ∧ Inv S ∧ (∀ k, q.own k ≠ .no → B ≤ k) ∧ Below B w0 w ∧ B ≤ w.heap.size
/-- Two engines of a law's own. -/
def Duo (B : Nat) (w0 w : World) (b1 : Nat) (S1 : Eng) (b2 : Nat) (S2 : Eng) : Prop :=
  ∃ q1 q2, E6 w b1 q1 S1 S1.le.length ∧ E6 w b2 q2 S2 S2.le.length ∧ Inv S1 ∧ Inv S2 ∧ (∀ k, q1.own k ≠ .no → q2.own k = .no) ∧ (∀ k, q1.own k ≠ .no → B ≤ k) ∧ (∀ k, q2.own k ≠ .no → B ≤ k) ∧ Below B w0 w ∧ B ≤ w.heap.size
section
variable {B b b1 b2 : Nat} {w0 w w' : World} {S S1 S2 : Eng}
theorem Solo.to {q q' : Pm} (hB : ∀ k, q.own k ≠ .no → B ≤ k) (h0 : Below B w0 w) (hs : B ≤ w.heap.size) (hE : E6 w' b q' S S.le.length) (hI : Inv S) (hX : Ext q q' w w') : Solo B w0 w' b S := by
  refine ⟨q', hE, hI, fun k hk => ?_, h0.trans (hX.kf.below hs hB), Nat.le_trans hs hX.kf.size⟩
  rcases Nat.lt_or_ge k w.heap.size with e | e
  · rw [hX.old k e] at hk; exact hB k hk
  · omega
theorem Duo.swap (h : Duo B w0 w b1 S1 b2 S2) : Duo B w0 w b2 S2 b1 S1 := by
  obtain ⟨q1, q2, h1, h2, i1, i2, hd, hb1, hb2, h0, hs⟩ := h
  refine ⟨q2, q1, h2, h1, i2, i1, fun k hk => ?_, hb2, hb1, h0, hs⟩
  by_cases e : q1.own k = .no
  · exact e
  · exact absurd (hd k e) hk
theorem Duo.to {q1 q2 q' : Pm} (h2 : E6 w b2 q2 S2 S2.le.length) (i2 : Inv S2) (hd : ∀ k, q1.own k ≠ .no → q2.own k = .no) (hb1 : ∀ k, q1.own k ≠ .no → B ≤ k) (hb2 : ∀ k, q2.own k ≠ .no → B ≤ k) (h0 : Below B w0 w) (hs : B ≤ w.heap.size)
    (hE : E6 w' b1 q' S1 S1.le.length) (hI : Inv S1) (hX : Ext q1 q' w w') : Duo B w0 w' b1 S1 b2 S2 := by
  refine ⟨q', q2, hE, h2.kept hX.kf (fun k hk hk1 => hk (hd k hk1)), hI, i2, fun k hk => ?_, fun k hk => ?_, hb2, h0.trans (hX.kf.below hs hb1), Nat.le_trans hs hX.kf.size⟩
  · rcases Nat.lt_or_ge k w.heap.size with e | e
    · rw [hX.old k e] at hk; exact hd k hk
    · exact h2.fr k e
  · rcases Nat.lt_or_ge k w.heap.size with e | e
    · rw [hX.old k e] at hk; exact hb1 k hk
    · omega
theorem Solo.below (h : Solo B w0 w b S) (hb : Below w.heap.size w w') : Solo B w0 w' b S := by
  obtain ⟨q, hE, hI, hB, h0, hs⟩ := h
  exact ⟨q, hE.below hb, hI, hB, h0.trans (hb.mono hs), Nat.le_trans hs hb.size⟩
theorem Duo.below (h : Duo B w0 w b1 S1 b2 S2) (hb : Below w.heap.size w w') : Duo B w0 w' b1 S1 b2 S2 := by
  obtain ⟨q1, q2, h1, h2, i1, i2, hd, hb1, hb2, h0, hs⟩ := h
  exact ⟨q1, q2, h1.below hb, h2.below hb, i1, i2, hd, hb1, hb2, h0.trans (hb.mono hs), Nat.le_trans hs hb.size⟩
theorem Solo.make {n : Nat} {e : Ending} (h : NewETo n w e w') (hn : n ≤ 90000) (h0 : Below B w0 w) (hs : B ≤ w.heap.size) : ∃ b, e = .returned (.pointer (some ⟨b, 0, none⟩)) ∧ Solo B w0 w' b (newE n) := by
  obtain ⟨b, q, he, hE, hF, hB⟩ := h
  exact ⟨b, he, q, hE, inv_new hn, fun k hk => Nat.le_trans hs (hF k hk), h0.trans (hB.mono hs), Nat.le_trans hs hB.size⟩
/-- One engine more. -/
theorem Solo.more {n : Nat} {e : Ending} (h1 : Solo B w0 w b1 S1) (h : NewETo n w e w') (hn : n ≤ 90000) : ∃ b, e = .returned (.pointer (some ⟨b, 0, none⟩)) ∧ Duo B w0 w' b1 S1 b (newE n) := by
  obtain ⟨q1, hE1, hI1, hB1, h0, hs⟩ := h1
  obtain ⟨b, q, he, hE, hF, hB⟩ := h
  refine ⟨b, he, q1, q, hE1.below hB, hE, hI1, inv_new hn, fun k hk => ?_, hB1, fun k hk => Nat.le_trans hs (hF k hk), h0.trans (hB.mono hs), Nat.le_trans hs hB.size⟩
  by_cases e : q.own k = .no
  · exact e
  · have := hE1.lt_of hk
    have := hF k e
    omega
end
end Go.Proofs.YtkckodpfhlpkgaaGreat
namespace Go.Proofs.YtkckodpfhlpkgaaGreat
open Go.RowKit LitM TrailM EngM

section
variable {B b b1 b2 : Nat} {w0 w : World} {S S1 S2 : Eng}
theorem Solo.inv (h : Solo B w0 w b S) : Inv S := by obtain ⟨q, hE, hI, _⟩ := h; exact hI
theorem Solo.out (h : Solo B w0 w b S) : Below B w0 w := by obtain ⟨q, hE, hI, hB, h0, hs⟩ := h; exact h0
theorem Solo.fix (h : Solo B w0 w b S) {S' : Eng} (e : S = S') : Solo B w0 w b S' := e ▸ h
/-- What an Add of a law's own leaves. -/
def SAdd (B : Nat) (w0 : World) (b : Nat) (S : Eng) (xs : List Int) (e : Ending) (w' : World) : Prop :=
  (fitsB S.n xs = false ∧ e = .returned (.tuple #[.int .i64 0, .int .i64 51]) ∧ Solo B w0 w' b S) ∨
  (fitsB S.n xs = true ∧ e = .returned (.tuple #[.int .i64 (S.cs.length : Int), .int .i64 0]) ∧ ∃ ys, IsClean xs ys ∧ Solo B w0 w' b (addF S ys (bothB xs)))
theorem clean_le {xs ys : List Int} (h : IsClean xs ys) : ys.length ≤ xs.length := clean_len (k := xs.length) (by rw [List.take_length]; exact h)
theorem Solo.add (h : Solo B w0 w b S) (hcn : S.cs.length ≤ 20000) (A : Option Addr) (n c : Nat) (xs : List Int) (hr : Rd .i32 w w.heap.size A n xs) (h32 : In32 xs) (hm : n ≤ 10000) :
    Calls Tryz.prog 67 #[.pointer (some ⟨b, 0, none⟩), .slice A n c] w (SAdd B w0 b S xs) := by
  obtain ⟨q, hE, hI, hB, h0, hs⟩ := h
  have hsm := hI.small
  have hl := hr.len
  refine (add_any hE hsm.n (by omega) (by have := hsm.ln; omega) A n c xs hr h32 hm).mono fun e w' ht => ?_
  rcases ht with ⟨a, e1, q', hE', hX⟩ | ⟨a, e1, q', ys, hc, hE', hX⟩
  · exact .inl ⟨a, e1, Solo.to hB h0 hs hE' hI hX⟩
  · exact .inr ⟨a, e1, ys, hc, Solo.to hB h0 hs hE' (inv_add hI a hc (by have := clean_le hc; omega)) hX⟩
/-- An Add that fits. -/
theorem Solo.addYes (h : Solo B w0 w b S) (hcn : S.cs.length ≤ 20000) (A : Option Addr) (n c : Nat) (xs ys : List Int) (hr : Rd .i32 w w.heap.size A n xs) (h32 : In32 xs) (hm : n ≤ 10000) (hf : fitsB S.n xs = true) (hc : IsClean xs ys) :
    Calls Tryz.prog 67 #[.pointer (some ⟨b, 0, none⟩), .slice A n c] w fun e w' => e = .returned (.tuple #[.int .i64 (S.cs.length : Int), .int .i64 0]) ∧ Solo B w0 w' b (addF S ys (bothB xs)) := by
  refine (h.add hcn A n c xs hr h32 hm).mono fun e w' ht => ?_
  rcases ht with ⟨a, _⟩ | ⟨_, e1, ys', hc', h'⟩
  · rw [hf] at a; cases a
  · rw [hc.unique hc']; exact ⟨e1, h'⟩
theorem Solo.addNo (h : Solo B w0 w b S) (hcn : S.cs.length ≤ 20000) (A : Option Addr) (n c : Nat) (xs : List Int) (hr : Rd .i32 w w.heap.size A n xs) (h32 : In32 xs) (hm : n ≤ 10000) (hf : fitsB S.n xs = false) :
    Calls Tryz.prog 67 #[.pointer (some ⟨b, 0, none⟩), .slice A n c] w fun e w' => e = .returned (.tuple #[.int .i64 0, .int .i64 51]) ∧ Solo B w0 w' b S := by
  refine (h.add hcn A n c xs hr h32 hm).mono fun e w' ht => ?_
  rcases ht with ⟨_, e1, h'⟩ | ⟨a, _⟩
  · exact ⟨e1, h'⟩
  · rw [hf] at a; cases a
/-- What Decide leaves of an engine. -/
def decE (S : Eng) (l : Int) : Eng := if errZ S.n S.L l = 0 then decideF S l else S
theorem inv_decE {S : Eng} (h : Inv S) (l : Int) : Inv (decE S l) := by
  unfold decE
  split
  · exact inv_decide h (by assumption)
  · exact h
theorem Solo.decide (h : Solo B w0 w b S) (l : Int) (l0 : -2147483648 ≤ l) (l1 : l ≤ 2147483647) :
    Calls Tryz.prog 32 #[.pointer (some ⟨b, 0, none⟩), .int .i32 l] w fun e w' => e = .returned (.int .i64 (eErr S l)) ∧ Solo B w0 w' b (decE S l) := by
  obtain ⟨q, hE, hI, hB, h0, hs⟩ := h
  refine (edecide_any hE rfl hI.small.n l l0 l1).mono fun e w' ht => ⟨ht.1, ?_⟩
  unfold decE
  rcases ht.2 with ⟨a, rfl⟩ | ⟨a, q', hE', hX⟩
  · rw [if_neg a]; exact ⟨q, hE, hI, hB, h0, hs⟩
  · rw [if_pos a]
    have hl : (decideF S l).le.length = S.le.length + 1 := by simp [decideF]
    exact Solo.to hB h0 hs (by rw [hl]; exact hE') (inv_decide hI a) hX
theorem prop_len (h : Inv S) : (propF S).1.le.length = S.le.length := (inv_prop h).2.1.le
theorem Solo.prop (h : Solo B w0 w b S) (hcn : S.cs.length ≤ 20000) :
    Calls Tryz.prog 40 #[.pointer (some ⟨b, 0, none⟩)] w fun e w' => e = .returned (.int .i64 (propF S).2) ∧ Solo B w0 w' b (propF S).1 := by
  obtain ⟨q, hE, hI, hB, h0, hs⟩ := h
  refine (prop_any hE hI rfl hcn).mono fun e w' ⟨he, q', hE', hX⟩ => ⟨he, Solo.to hB h0 hs (by rw [prop_len hI]; exact hE') (inv_prop hI).1 hX⟩
/-- What the trail's own calls answer. -/
theorem Solo.asks (h : Solo B w0 w b S) : ∃ bt, w.cell? ⟨b, 0, none⟩ = some (.pointer (some ⟨bt, 0, none⟩)) ∧
    (∀ l, -2147483648 ≤ l → l ≤ 2147483647 → Calls Tryz.prog 36 #[.pointer (some ⟨bt, 0, none⟩), .int .i32 l] w fun e w' => e = .returned (.int .i64 (valZ S.L l)) ∧ w = w') ∧
    (∀ v, Calls Tryz.prog 89 #[.pointer (some ⟨bt, 0, none⟩), .int .i64 v] w fun e w' => e = .returned (.int .i64 (levZ S.L v)) ∧ w = w') ∧
    (∀ v, Calls Tryz.prog 72 #[.pointer (some ⟨bt, 0, none⟩), .int .i64 v] w fun e w' => e = .returned (.int .i64 (reaZ S.L v)) ∧ w = w') ∧
    (Calls Tryz.prog 71 #[.pointer (some ⟨bt, 0, none⟩)] w fun e w' => e = .returned (.int .i64 (S.n : Int)) ∧ w = w') ∧
    (Calls Tryz.prog 34 #[.pointer (some ⟨bt, 0, none⟩)] w fun e w' => e = .returned (.int .i64 (S.le.length : Int)) ∧ w = w') := by
  obtain ⟨q, hE, hI, hB, h0, hs⟩ := h
  have hn := hI.small.n
  obtain ⟨F, gm, cm, ao, co, az, cz, hQ, hO, _⟩ := hE.trail
  exact ⟨q.bt, hE.h0, fun l l0 l1 => tvalue_nat w hQ hO.pre (by omega) l l0 l1, fun v => tlevel_nat w hQ hO.pre (by omega) v, fun v => treason_nat w hQ hO.pre (by omega) v, tvars_nat w hQ (by omega), tdepth_nat w hQ⟩
end
/-- Literals in a block that was just made. -/
theorem rd_made (w : World) (xs : List Int) : Rd .i32 (w.alloc (.cells (xs.map (Value.int .i32)).toArray 34)) (w.alloc (.cells (xs.map (Value.int .i32)).toArray 34)).heap.size (some ⟨w.heap.size, 0, none⟩) xs.length xs :=
  ⟨rfl, fun _ => ⟨w.heap.size, 0, rfl, by simp, fun j hj => by
    rw [Nat.zero_add, Lib.cell_of_heap (blk_new w _) j]
    rw [List.getElem?_toArray, List.getElem?_map, List.getElem?_eq_getElem hj, List.getD, List.getElem?_eq_getElem hj]; rfl⟩⟩
end Go.Proofs.YtkckodpfhlpkgaaGreat
namespace Go.Proofs.YtkckodpfhlpkgaaGreat
open Go.Shelf Go.RowKit Go.Lib Go.Sort LitM TrailM EngM

/-- Is there such a clause? -/
def thereB (S : Eng) (id : Int) : Bool := decide (0 ≤ id) && decide (id < (S.cs.length : Int)) && (clA S.cs id.toNat).pr
set_option maxHeartbeats 1600000 in
theorem present_any {w : World} {b : Nat} {q : Pm} {S : Eng} {d : Nat} (h : E6 w b q S d) (id : Int) : Calls Tryz.prog 60 #[.pointer (some ⟨b, 0, none⟩), .int .i64 id] w fun e w' => e = .returned (.bool (thereB S id)) ∧ w = w' := by
  have HL := Lib.hid (elen_any h)
  by_cases h1 : 0 ≤ id
  · have t1 : decide (0 ≤ id) = true := decide_eq_true h1
    by_cases h2 : id < (S.cs.length : Int)
    · have t2 : decide (id < (S.cs.length : Int)) = true := decide_eq_true h2
      obtain ⟨k, rfl⟩ := Int.eq_ofNat_of_zero_le h1
      have hk : k < S.cs.length := by omega
      obtain ⟨gc, hA, hrow, _⟩ := h.clsRow hk
      obtain ⟨c0, _⟩ := h.clCells hk hA
      have hcw := hrow.bd
      obtain ⟨hcw1, hcw2⟩ := hcw
      have g1 := h.h1
      rw [hA] at g1
      have HR : Hid (thereB S (k : Int) = (clA S.cs k).pr) := by unfold Hid thereB; rw [t1, t2]; simp
      rw [HR.out]
      clear h hrow HR
      generalize (clA S.cs k).pr = y at *
      generalize S.cs.length = n at *
      go_enter Tryz.func60, Tryz.ntmps60
      go_wp2_with fail
      refine HL.out.mono ?_
      rintro e w' ⟨rfl, rfl⟩
      go_wp2_with fail
      go_ret
      exact ⟨rfl, rfl⟩
    · have t2 : decide (id < (S.cs.length : Int)) = false := decide_eq_false h2
      have HR : Hid (thereB S id = false) := by unfold Hid thereB; rw [t2]; simp
      rw [HR.out]
      clear h HR
      generalize S.cs.length = n at *
      go_enter Tryz.func60, Tryz.ntmps60
      go_wp2_with fail
      refine HL.out.mono ?_
      rintro e w' ⟨rfl, rfl⟩
      go_wp2_with fail
      go_ret
      exact ⟨rfl, rfl⟩
  · have t1 : decide (0 ≤ id) = false := decide_eq_false h1
    have HR : Hid (thereB S id = false) := by unfold Hid thereB; rw [t1]; simp
    rw [HR.out]
    clear h HR HL
    go_enter Tryz.func60, Tryz.ntmps60
    go_wp2_with fail
    go_ret
    exact ⟨rfl, rfl⟩
set_option maxHeartbeats 1600000 in
theorem lean1_any {W : World} {b x0 x1 : Nat} {q : Pm} {S : Eng} {d : Nat} (h : E6 W b q S d) (hb : W.cell? ⟨x0, 0, none⟩ = some (.pointer (some ⟨b, 0, none⟩))) (id : Int) (hb1 : W.cell? ⟨x1, 0, none⟩ = some (.int .i64 id)) (hn : S.n ≤ 90000) (l : Int) (l0 : -2147483648 ≤ l) (l1 : l ≤ 2147483647) :
    Calls Tryz.prog 95 #[.int .i32 l, .pointer (some ⟨x0, 0, none⟩), .pointer (some ⟨x1, 0, none⟩)] W fun e w' => e = .returned (.bool (reaZ S.L (varZ l) == id)) ∧ ∃ r, w' = W.drewN r := by
  have h0 := h.h0
  have HVq : Hid (∀ V : World, Calls Tryz.prog 28 #[.int .i32 l] V fun e w' => e = .returned (.int .i64 (varZ l)) ∧ w' = V) := fun V => (var_any l V l0 l1).mono fun e w' ⟨h1, h2⟩ => ⟨h1, h2.symm⟩
  have HV : Hid (∀ r, Calls Tryz.prog 72 #[.pointer (some ⟨q.bt, 0, none⟩), .int .i64 (varZ l)] (W.drewN r) fun e w' => e = .returned (.int .i64 (reaZ S.L (varZ l))) ∧ w' = W.drewN r) := fun r => by
    obtain ⟨F, gm, cm, ao, co, az, cz, hQ, hO, _⟩ := (h.drewN r).trail
    exact (treason_nat (W.drewN r) hQ hO.pre (by omega) (varZ l)).mono fun e w' ⟨h1, h2⟩ => ⟨h1, h2.symm⟩
  clear h
  generalize reaZ S.L (varZ l) = z at *
  generalize varZ l = v at *
  go_enter Tryz.func95, Tryz.ntmps95
  go_upto_region 1 with (fail)
  go_quiet (first | (go_at_call 28; exact Calls.quiet_of_same (HVq.out _)) | (go_at_call 72; exact Calls.quiet_of_same (HV.out _)))
  go_wp2_with fail
  go_ret
  exact ⟨rfl, _, rfl⟩
theorem eg_lean1 : ∀ args w, (callFunc 95 args).run Tryz.prog w = .ok (.enter 95 args) w := enters_of Tryz.func95 (by kernel_rfl) rfl
/-- Is the clause a reason? -/
def leanB (S : Eng) (id : Nat) : Bool := (clA S.cs id).ls.any fun l => reaZ S.L (varZ l) == (id : Int)
theorem containsLean {w : World} {b x0 x1 : Nat} {q : Pm} {S : Eng} {d : Nat} (h : E6 w b q S d) {id : Nat} (hi : id < S.cs.length) (hls : ∀ x ∈ (clA S.cs id).ls, LitM.one x = true) (hll : (clA S.cs id).ls.length ≤ 90000) (hb : w.cell? ⟨x0, 0, none⟩ = some (.pointer (some ⟨b, 0, none⟩))) (hx : x0 < w.heap.size) (hb1 : w.cell? ⟨x1, 0, none⟩ = some (.int .i64 (id : Int))) (hx1 : x1 < w.heap.size) (hn : S.n ≤ 90000) :
    Calls Tryz.prog 26 #[.slice (q.Lc id).1 (clA S.cs id).ls.length (q.Lc id).2, .func (.func 95) #[] #[.pointer (some ⟨x0, 0, none⟩), .pointer (some ⟨x1, 0, none⟩)]] w fun e w' => e = .returned (.bool (leanB S id)) ∧ ∃ r, w' = w.drewN r := by
  have ha : allOne (clA S.cs id).ls = true := by unfold allOne; rw [List.all_eq_true]; exact hls
  have hlc := (h.lc id hi).1
  unfold leanB
  generalize (q.Lc id).1 = A at *
  generalize (q.Lc id).2 = c at *
  generalize (clA S.cs id).ls = xs at *
  obtain ⟨ls, rfl⟩ := to_L1 xs ha
  by_cases h0 : (ls.map L1.val).length = 0
  · have : ls = [] := by simpa using h0
    subst this
    have := AnyE.slices_ContainsFunc_empty Tryz.containsF A c (.func (.func 95) #[] #[.pointer (some ⟨x0, 0, none⟩), .pointer (some ⟨x1, 0, none⟩)]) w
    change Calls Tryz.prog 26 _ _ _ at this
    exact this.mono fun e w' ⟨he, hw⟩ => ⟨he, 0, hw⟩
  · obtain ⟨g, rfl, hr⟩ := hlc.row (by omega)
    have hp : PredAt Tryz.prog 95 #[.pointer (some ⟨x0, 0, none⟩), .pointer (some ⟨x1, 0, none⟩)] encL (fun x : L1 => reaZ S.L (varZ x.val) == (id : Int)) w := fun W x hW => by
      have := lean1_any (h.below hW) ((hW.cell (p := ⟨x0, 0, none⟩) hx).trans hb) (id : Int) ((hW.cell (p := ⟨x1, 0, none⟩) hx1).trans hb1) hn x.val x.bd.1 x.bd.2
      exact this
    have := AnyE.slices_ContainsFunc Tryz.containsF encL (fun x : L1 => reaZ S.L (varZ x.val) == (id : Int)) 95 #[.pointer (some ⟨x0, 0, none⟩), .pointer (some ⟨x1, 0, none⟩)] eg_lean1 g 0 (ls.map L1.val).length c ls w hp (by simp) (by omega) (fun j hj => by
      rw [Nat.zero_add, hr.cell (show j < (ls.map L1.val).length * 1 by simp; omega)]
      unfold lsC
      rw [getElem!_pos ls j hj, getD_lt (by simpa using hj)]
      simp [encL])
    change Calls Tryz.prog 26 _ _ _ at this
    refine this.mono fun e w' ⟨he, hw⟩ => ⟨?_, hw⟩
    rw [he]
    congr 2
    rw [List.take_of_length_le (by simp), List.any_map]; rfl
set_option maxHeartbeats 3200000 in
set_option maxRecDepth 100000 in
theorem leantOn_any {w : World} {b : Nat} {q : Pm} {S : Eng} {d : Nat} (h : E6 w b q S d) {id : Nat} (hi : id < S.cs.length) (hls : ∀ x ∈ (clA S.cs id).ls, LitM.one x = true) (hll : (clA S.cs id).ls.length ≤ 90000) (hn : S.n ≤ 90000) :
    Calls Tryz.prog 85 #[.pointer (some ⟨b, 0, none⟩), .int .i64 (id : Int)] w fun e w' => e = .returned (.bool (leanB S id)) ∧ Below w.heap.size w w' := by
  obtain ⟨W, hW⟩ : ∃ W, W = (w.alloc (.cells #[.pointer (some ⟨b, 0, none⟩)] 64)).alloc (.cells #[.int .i64 (id : Int)] 3) := ⟨_, rfl⟩
  have hB : Below w.heap.size w W := by rw [hW]; exact ((Below.refl _ _).alloc (Nat.le_refl _) _).alloc (by simp) _
  have hs : W.heap.size = w.heap.size + 2 := by rw [hW]; simp
  have hb0 : W.cell? ⟨w.heap.size, 0, none⟩ = some (.pointer (some ⟨b, 0, none⟩)) := by
    have e : W.heap[w.heap.size]? = some (.cells #[.pointer (some ⟨b, 0, none⟩)] 64 (0, 0)) := by
      rw [hW, Below.heap_alloc _ _ _ (by simp)]; exact blk_new _ _
    rw [Lib.cell_of_heap e]; rfl
  have hb1 : W.cell? ⟨w.heap.size + 1, 0, none⟩ = some (.int .i64 (id : Int)) := by
    have e : W.heap[w.heap.size + 1]? = some (.cells #[.int .i64 (id : Int)] 3 (0, 0)) := by
      have := blk_new (w.alloc (.cells #[.pointer (some ⟨b, 0, none⟩)] 64)) (.cells #[.int .i64 (id : Int)] 3)
      rw [hW]; simpa using this
    rw [Lib.cell_of_heap e]; rfl
  have hE := h.below hB
  obtain ⟨gc, hA, hrow, _⟩ := hE.clsRow hi
  obtain ⟨_, c1, _⟩ := hE.clCells hi hA
  have hcw := hrow.bd
  obtain ⟨hcw1, hcw2⟩ := hcw
  have g1 := hE.h1
  rw [hA] at g1
  have HC : Hid (∀ r, Calls Tryz.prog 26 #[.slice (q.Lc id).1 (clA S.cs id).ls.length (q.Lc id).2, .func (.func 95) #[] #[.pointer (some ⟨w.heap.size, 0, none⟩), .pointer (some ⟨w.heap.size + 1, 0, none⟩)]] (W.drewN r) fun e w' => e = .returned (.bool (leanB S id)) ∧ ∃ m, w' = (W.drewN r).drewN m) := fun r =>
    containsLean (hE.drewN r) hi hls hll hb0 (by show w.heap.size < W.heap.size; omega) hb1 (by show w.heap.size + 1 < W.heap.size; omega) hn
  have HB := Lib.hid hB
  have HW := Lib.hid hW
  clear h hE hrow hB hW
  generalize leanB S id = y at *
  generalize S.cs.length = n at *
  go_enter Tryz.func85, Tryz.ntmps85
  go_upto_region 1 with (fail)
  rw [← HW.out]
  go_quiet ((go_at_call 26; exact Calls.quiet_of (HC.out _)))
  go_wp2_with fail
  go_ret
  exact ⟨rfl, below_drewN HB.out _⟩
end Go.Proofs.YtkckodpfhlpkgaaGreat
namespace Go.Proofs.YtkckodpfhlpkgaaGreat
open Go.RowKit LitM TrailM EngM

section
variable {w : World} {b d : Nat} {q : Pm} {S : Eng}
/-- A clause's cells are those of none. -/
theorem E6.rem {id gc : Nat} (h : E6 w b q S d) (hi : id < S.cs.length) (hA : q.Ac = some ⟨gc, 0, none⟩) :
    ∃ q', E6 (((((w.setCell ⟨gc, id * 5, none⟩ (.bool false)).setCell ⟨gc, id * 5 + 1, none⟩ (.slice none 0 0)).setCell ⟨gc, id * 5 + 2, none⟩ (.int .i32 0)).setCell ⟨gc, id * 5 + 3, none⟩ (.int .i32 0)).setCell ⟨gc, id * 5 + 4, none⟩ (.int .i64 0)) b q' (removeF S id) d ∧
      Ext q q' w (((((w.setCell ⟨gc, id * 5, none⟩ (.bool false)).setCell ⟨gc, id * 5 + 1, none⟩ (.slice none 0 0)).setCell ⟨gc, id * 5 + 2, none⟩ (.int .i32 0)).setCell ⟨gc, id * 5 + 3, none⟩ (.int .i32 0)).setCell ⟨gc, id * 5 + 4, none⟩ (.int .i64 0)) := by
  obtain ⟨g, e, hr, ho⟩ := h.clsRow hi
  rw [hA] at e
  injection e with e
  injection e with e
  subst e
  have hk : Kf (fun k => q.own k = .cls) w (((((w.setCell ⟨gc, id * 5, none⟩ (.bool false)).setCell ⟨gc, id * 5 + 1, none⟩ (.slice none 0 0)).setCell ⟨gc, id * 5 + 2, none⟩ (.int .i32 0)).setCell ⟨gc, id * 5 + 3, none⟩ (.int .i32 0)).setCell ⟨gc, id * 5 + 4, none⟩ (.int .i64 0)) :=
    (((((Kf.refl _ _).set (.inl ho) _).set (.inl ho) _).set (.inl ho) _).set (.inl ho) _).set (.inl ho) _
  have hc : Chg (fun o => o = .cls) q.own q.own w _ := h.chg hk
  have hcl : ∀ i, clA (S.cs.set id Cl.gone) i = if i = id then Cl.gone else clA S.cs i := fun i => clA_set hi _ i
  refine ⟨{ q with Lc := fun i => if i = id then (none, 0) else q.Lc i }, ⟨?_, h.ob, h.tr_kept hc (by simp), ⟨?_, h.cl.2⟩, fun i hi' => ?_, h.lo.kept hc (by simp), h.wa.kept hc (by simp), fun p hp => (h.wb p hp).kept hc (by simp), h.le.kept hc (by simp), fun k hk => (h.lb k hk).kept hc (by simp), hc.fr⟩, hc.ext (by simp) rfl rfl⟩
  · have := h.head_kept hc (by simp)
    unfold headV removeF at *
    rw [this]; simp
  · show SlV _ 5 _ q.Ac (S.cs.set id Cl.gone).length q.cc _
    rw [hA, List.length_set]
    refine .inr ⟨gc, rfl, (((((hr.set (show id * 5 < S.cs.length * 5 by omega) _).set (show id * 5 + 1 < S.cs.length * 5 by omega) _).set (show id * 5 + 2 < S.cs.length * 5 by omega) _).set (show id * 5 + 3 < S.cs.length * 5 by omega) _).set (show id * 5 + 4 < S.cs.length * 5 by omega) _).congr fun j hj => ?_⟩
    show clC (S.cs.set id Cl.gone) (fun i => if i = id then (none, 0) else q.Lc i) j = _
    by_cases e : j / 5 = id
    · have hg : clA (S.cs.set id Cl.gone) (j / 5) = Cl.gone := by rw [hcl, if_pos e]
      unfold clC
      rw [hg]
      simp only
      rw [if_pos e]
      rcases (show j = id * 5 ∨ j = id * 5 + 1 ∨ j = id * 5 + 2 ∨ j = id * 5 + 3 ∨ j = id * 5 + 4 by omega) with x | x | x | x | x <;> subst x
      · rw [if_pos (by omega), updV_ne _ _ (by omega), updV_ne _ _ (by omega), updV_ne _ _ (by omega), updV_ne _ _ (by omega), updV_at]; rfl
      · rw [if_neg (by omega), if_pos (by omega), updV_ne _ _ (by omega), updV_ne _ _ (by omega), updV_ne _ _ (by omega), updV_at]; rfl
      · rw [if_neg (by omega), if_neg (by omega), if_pos (by omega), updV_ne _ _ (by omega), updV_ne _ _ (by omega), updV_at]; rfl
      · rw [if_neg (by omega), if_neg (by omega), if_neg (by omega), if_pos (by omega), updV_ne _ _ (by omega), updV_at]; rfl
      · rw [if_neg (by omega), if_neg (by omega), if_neg (by omega), if_neg (by omega), updV_at]; rfl
    · have hg : clA (S.cs.set id Cl.gone) (j / 5) = clA S.cs (j / 5) := by rw [hcl, if_neg e]
      rw [updV_ne _ _ (by omega), updV_ne _ _ (by omega), updV_ne _ _ (by omega), updV_ne _ _ (by omega), updV_ne _ _ (by omega)]
      unfold clC
      rw [hg]
      simp only
      rw [if_neg e]
  · have hi' : i < S.cs.length := by simpa [removeF] using hi'
    show Part _ q.own (.lits i) _ 1 (if i = id then (none, 0) else q.Lc i).1 (clA (S.cs.set id Cl.gone) i).ls.length (if i = id then (none, 0) else q.Lc i).2 (lsC (clA (S.cs.set id Cl.gone) i).ls)
    rw [hcl]
    by_cases e : i = id
    · rw [if_pos e, if_pos e]; exact Part.nil _ _ _ _ _ _
    · rw [if_neg e, if_neg e]; exact (h.lc i hi').kept hc (by simp)
end
/-- Can it be removed? -/
def remOk (S : Eng) (id : Int) : Bool := thereB S id && !leanB S id.toNat
/-- What Remove leaves. -/
def RemTo (w : World) (b : Nat) (q : Pm) (S : Eng) (d : Nat) (id : Int) (e : Ending) (w' : World) : Prop :=
  (remOk S id = false ∧ e = .returned (.int .i64 51) ∧ E6 w' b q S d ∧ Ext q q w w') ∨ (remOk S id = true ∧ e = .returned (.int .i64 0) ∧ ∃ q', E6 w' b q' (removeF S id.toNat) d ∧ Ext q q' w w')
set_option maxHeartbeats 3200000 in
set_option maxRecDepth 100000 in
theorem remove_any {w : World} {b : Nat} {q : Pm} {S : Eng} {d K : Nat} (h : E6 w b q S d) (hS : Sf S K) (id : Int) :
    Calls Tryz.prog 68 #[.pointer (some ⟨b, 0, none⟩), .int .i64 id] w (RemTo w b q S d id) := by
  have HP := Lib.hid (present_any h id)
  have HE := Lib.hid h
  unfold RemTo
  cases ht : thereB S id with
  | false =>
    rw [ht] at HP
    have HR : Hid (remOk S id = false) := by unfold Hid remOk; rw [ht]; rfl
    clear h ht
    go_enter Tryz.func68, Tryz.ntmps68
    go_wp2_with fail
    refine HP.out.mono ?_
    rintro e w' ⟨rfl, rfl⟩
    go_wp2_with fail
    go_ret
    exact .inl ⟨HR.out, rfl, HE.out, Ext.refl _ _⟩
  | true =>
    rw [ht] at HP
    have h3 : 0 ≤ id ∧ id < (S.cs.length : Int) := by
      unfold thereB at ht
      simp only [Bool.and_eq_true, decide_eq_true_eq] at ht
      exact ht.1
    obtain ⟨k, rfl⟩ := Int.eq_ofNat_of_zero_le h3.1
    have hk : k < S.cs.length := by omega
    obtain ⟨hls, _, hll, _, _⟩ := hS.cl k hk
    have HL := Lib.hid (leantOn_any h hk (fun x hx => (hls x hx).1) hll hS.n)
    have HR : Hid (remOk S (k : Int) = !leanB S k) := by unfold Hid remOk; rw [ht]; simp
    cases hl : leanB S k with
    | true =>
      rw [hl] at HL HR
      clear h ht hl hls hll h3
      go_enter Tryz.func68, Tryz.ntmps68
      go_wp2_with fail
      refine HP.out.mono ?_
      rintro e w' ⟨rfl, rfl⟩
      go_wp2_with fail
      refine HL.out.mono ?_
      rintro e w' ⟨rfl, hB⟩
      have HE1 := Lib.hid (show _ ∧ _ from ⟨HE.out.below hB, Ext.below HE.out hB⟩)
      clear hB HL HP
      go_wp2_with fail
      go_ret
      exact .inl ⟨HR.out, rfl, HE1.out.1, HE1.out.2⟩
    | false =>
      rw [hl] at HL HR
      clear h ht hl hls hll h3
      have HK := Lib.hid hk
      go_enter Tryz.func68, Tryz.ntmps68
      go_wp2_with fail
      refine HP.out.mono ?_
      rintro e w' ⟨rfl, rfl⟩
      go_wp2_with fail
      refine HL.out.mono ?_
      rintro e w1 ⟨rfl, hB⟩
      have hE1 := HE.out.below hB
      obtain ⟨gc, hA, hrow, _⟩ := hE1.clsRow hk
      have hcw := hrow.bd
      obtain ⟨hcw1, hcw2⟩ := hcw
      have g1 := hE1.h1
      rw [hA] at g1
      obtain ⟨c0, c1, c2, c3, c4, cf⟩ := hE1.clCells hk hA
      obtain ⟨q', e1, e2⟩ := hE1.rem hk hA
      have HX := Lib.hid (show _ ∧ _ from ⟨e1, (Ext.below HE.out hB).trans e2⟩)
      clear hB HL HP hrow hE1 e1 e2
      generalize S.cs.length = n at *
      generalize (clA S.cs k).pr = y0 at *
      generalize (clA S.cs k).ls.length = y1 at *
      generalize (clA S.cs k).w0 = y2 at *
      generalize (clA S.cs k).w1 = y3 at *
      generalize (clA S.cs k).nx = y4 at *
      go_wp2_with fail
      go_ret
      exact .inr ⟨HR.out, rfl, q', HX.out.1, HX.out.2⟩
set_option maxHeartbeats 1600000 in
/-- A Back that is refused. -/
theorem eback_no {w : World} {b : Nat} {q : Pm} {S : Eng} {d : Nat} (h : E6 w b q S d) (v : Int) (hv : v < 0 ∨ (d : Int) < v) :
    Calls Tryz.prog 23 #[.pointer (some ⟨b, 0, none⟩), .int .i64 v] w fun e w' => e = .returned (.int .i64 51) ∧ w = w' := by
  have h0 := h.h0
  obtain ⟨F, hT, _⟩ := h.tr
  have HB := Lib.hid (back_no w hT v hv)
  clear h hT
  go_enter Tryz.func23, Tryz.ntmps23
  go_wp2_with fail
  refine HB.out.mono ?_
  rintro e w' ⟨rfl, rfl⟩
  go_wp2_with fail
  go_ret
  exact ⟨rfl, rfl⟩
theorem setCl_gone {S : Eng} {K id : Nat} (h : Sf S K) (hi : id < S.cs.length) : Sf (removeF S id) K := by
  have hcl : ∀ i, clA (S.cs.set id Cl.gone) i = if i = id then Cl.gone else clA S.cs i := fun i => clA_set hi _ i
  have hlen : (S.cs.set id Cl.gone).length = S.cs.length := by simp
  refine ⟨h.n, fun i hi' => ?_, by show (S.cs.set id Cl.gone).length ≤ K; rw [hlen]; exact h.cn, fun i hm => by show i < (S.cs.set id Cl.gone).length; rw [hlen]; exact h.lo i hm, h.ln, fun p hp i hm => by show i < (S.cs.set id Cl.gone).length; rw [hlen]; exact h.wa p hp i hm, h.wn, h.wl, fun k hk i hm => by show i < (S.cs.set id Cl.gone).length; rw [hlen]; exact h.le k hk i hm, h.en, h.vi, h.ok⟩
  have hi' : i < S.cs.length := by rw [← hlen]; exact hi'
  show (∀ x ∈ (clA (S.cs.set id Cl.gone) i).ls, LitM.one x = true ∧ varZ x ≤ S.n) ∧ ((clA (S.cs.set id Cl.gone) i).nx = 0 ∨ (clA (S.cs.set id Cl.gone) i).nx < (clA (S.cs.set id Cl.gone) i).ls.length) ∧ (clA (S.cs.set id Cl.gone) i).ls.length ≤ 90000 ∧ ((clA (S.cs.set id Cl.gone) i).w0 = 0 ∨ (clA (S.cs.set id Cl.gone) i).w0 ∈ (clA (S.cs.set id Cl.gone) i).ls) ∧ ((clA (S.cs.set id Cl.gone) i).w1 = 0 ∨ (clA (S.cs.set id Cl.gone) i).w1 ∈ (clA (S.cs.set id Cl.gone) i).ls)
  rw [hcl]
  by_cases e : i = id
  · rw [if_pos e]
    exact ⟨fun x hx => absurd hx List.not_mem_nil, .inl rfl, Nat.zero_le _, .inl rfl, .inl rfl⟩
  · rw [if_neg e]; exact h.cl i hi'
theorem inv_remove {S : Eng} (h : Inv S) {id : Nat} (hi : id < S.cs.length) (hl : leanB S id = false) : Inv (removeF S id) := by
  obtain ⟨K, hs⟩ := h.sf
  have hcl : ∀ i, clA (S.cs.set id Cl.gone) i = if i = id then Cl.gone else clA S.cs i := fun i => clA_set hi _ i
  have hne : ∀ i, (clA (S.cs.set id Cl.gone) i).pr = true → i ≠ id ∧ clA (S.cs.set id Cl.gone) i = clA S.cs i := fun i hp => by
    rw [hcl] at hp ⊢
    by_cases e : i = id
    · rw [if_pos e] at hp; cases hp
    · rw [if_neg e]; exact ⟨e, rfl⟩
  have hlen : (S.cs.set id Cl.gone).length = S.cs.length := by simp
  refine ⟨⟨K, setCl_gone hs hi⟩, fun i hi' => ?_, h.i1, h.i2, fun p i hm hp => ?_, h.i4, fun i hi' hp hb => ?_, fun p i hm hp => ?_, h.i7, fun j x hx h0 => ?_⟩
  · show (clA (S.cs.set id Cl.gone) i).ls.Nodup
    rw [hcl]
    split
    · exact List.nodup_nil
    · exact h.nd i (by rw [← hlen]; exact hi')
  · obtain ⟨e1, e2⟩ := hne i hp
    have hp : (clA (S.cs.set id Cl.gone) i).pr = true := hp
    show (p = plc (clA (S.cs.set id Cl.gone) i).w0 ∨ p = plc (clA (S.cs.set id Cl.gone) i).w1) ∧ (clA (S.cs.set id Cl.gone) i).w0 ≠ (clA (S.cs.set id Cl.gone) i).w1 ∧ (clA (S.cs.set id Cl.gone) i).w0 ∈ (clA (S.cs.set id Cl.gone) i).ls ∧ (clA (S.cs.set id Cl.gone) i).w1 ∈ (clA (S.cs.set id Cl.gone) i).ls ∧ i ∈ waA S.wa (plc (clA (S.cs.set id Cl.gone) i).w0) ∧ i ∈ waA S.wa (plc (clA (S.cs.set id Cl.gone) i).w1)
    rw [e2] at hp ⊢
    exact h.i3 p i hm hp
  · obtain ⟨e1, e2⟩ := hne i hp
    have hp : (clA (S.cs.set id Cl.gone) i).pr = true := hp
    have hb : bothB (clA (S.cs.set id Cl.gone) i).ls = false := hb
    show i ∈ S.lo ∨ (∃ k, k < S.le.length ∧ i ∈ (leA S.le k).2 ∧ ∃ x ∈ S.L, x.l ∈ (clA (S.cs.set id Cl.gone) i).ls ∧ x.lv ≤ k + 1) ∨ (∃ x ∈ S.L, x.l ∈ (clA (S.cs.set id Cl.gone) i).ls ∧ x.lv = 0) ∨ (i ∈ waA S.wa (plc (clA (S.cs.set id Cl.gone) i).w0) ∧ i ∈ waA S.wa (plc (clA (S.cs.set id Cl.gone) i).w1))
    rw [e2] at hp hb ⊢
    exact h.i5 i (by rw [← hlen]; exact hi') hp hb
  · obtain ⟨e1, e2⟩ := hne i hp
    have hp : (clA (S.cs.set id Cl.gone) i).pr = true := hp
    show ∀ k, k ≤ S.le.length → ∀ j x, j < vk S k → S.L[j]? = some x → (x.l = -(clA (S.cs.set id Cl.gone) i).w0 → ∃ y ∈ S.L, y.l = (clA (S.cs.set id Cl.gone) i).w1 ∧ y.lv ≤ k) ∧ (x.l = -(clA (S.cs.set id Cl.gone) i).w1 → ∃ y ∈ S.L, y.l = (clA (S.cs.set id Cl.gone) i).w0 ∧ y.lv ≤ k)
    rw [e2] at hp ⊢
    exact h.i6 p i hm hp
  · obtain ⟨r, q1, q2, q3, q4, q5⟩ := h.i8 j x hx h0
    have hr : r ≠ id := fun e => by
      subst e
      have hm := List.mem_of_getElem? hx
      have hf := h.pre.find hm
      unfold leanB at hl
      rw [List.any_eq_false] at hl
      have := hl x.l q4
      unfold reaZ at this
      rw [hf] at this
      simp [q1] at this
    refine ⟨r, q1, by show r < (S.cs.set id Cl.gone).length; rw [hlen]; exact q2, ?_, ?_, ?_⟩
    · show (clA (S.cs.set id Cl.gone) r).pr = true
      rw [hcl, if_neg hr]; exact q3
    · show x.l ∈ (clA (S.cs.set id Cl.gone) r).ls
      rw [hcl, if_neg hr]; exact q4
    · show ∀ y ∈ (clA (S.cs.set id Cl.gone) r).ls, y ≠ x.l → Tr (S.L.take j) (-y)
      rw [hcl, if_neg hr]; exact q5
section
variable {B b : Nat} {w0 w : World} {S : Eng}
/-- What Remove leaves of an engine. -/
def remE (S : Eng) (id : Int) : Eng := if remOk S id = true then removeF S id.toNat else S
theorem remOk_lt {id : Int} (h : remOk S id = true) : id.toNat < S.cs.length ∧ leanB S id.toNat = false := by
  unfold remOk thereB at h
  simp only [Bool.and_eq_true, decide_eq_true_eq, Bool.not_eq_true'] at h
  exact ⟨by omega, h.2⟩
theorem Solo.remove (h : Solo B w0 w b S) (id : Int) :
    Calls Tryz.prog 68 #[.pointer (some ⟨b, 0, none⟩), .int .i64 id] w fun e w' => e = .returned (.int .i64 (if remOk S id = true then 0 else 51)) ∧ Solo B w0 w' b (remE S id) := by
  obtain ⟨q, hE, hI, hB, h0, hs⟩ := h
  refine (remove_any hE hI.small id).mono fun e w' ht => ?_
  unfold remE
  rcases ht with ⟨a, e1, hE', hX⟩ | ⟨a, e1, q', hE', hX⟩
  · rw [if_neg (by rw [a]; simp), if_neg (by rw [a]; simp)]
    exact ⟨e1, Solo.to hB h0 hs hE' hI hX⟩
  · rw [if_pos a, if_pos a]
    obtain ⟨r1, r2⟩ := remOk_lt a
    exact ⟨e1, Solo.to hB h0 hs hE' (inv_remove hI r1 r2) hX⟩
theorem Solo.backNo (h : Solo B w0 w b S) (v : Int) (hv : v < 0 ∨ (S.le.length : Int) < v) :
    Calls Tryz.prog 23 #[.pointer (some ⟨b, 0, none⟩), .int .i64 v] w fun e w' => e = .returned (.int .i64 51) ∧ Solo B w0 w' b S := by
  obtain ⟨q, hE, hI, hB, h0, hs⟩ := h
  exact (eback_no hE v hv).mono fun e w' ⟨he, hw⟩ => ⟨he, by subst hw; exact ⟨q, hE, hI, hB, h0, hs⟩⟩
end
end Go.Proofs.YtkckodpfhlpkgaaGreat
namespace Go.Proofs.YtkckodpfhlpkgaaGreat
open Go.RowKit LitM TrailM EngM

theorem SlV.rd {w : World} {A : Option Addr} {n c : Nat} {xs : List Int} (h : SlV 34 1 w A n c (lsC xs)) (hl : xs.length = n) : Rd .i32 w w.heap.size A n xs :=
  ⟨hl, fun h0 => by
    obtain ⟨g, e, hr⟩ := h.row h0
    refine ⟨g, 0, e, hr.lt, fun j hj => ?_⟩
    have := hr.cell (show j < n * 1 by omega)
    rw [Nat.zero_add, this]; rfl⟩
theorem SlV.nil0 {T : TypeId} {k : Nat} {w : World} {A : Option Addr} {n c : Nat} {f : Nat → Value} (h : SlV T k w A n c f) (hA : A = none) : n = 0 := by
  rcases h with ⟨_, h, _⟩ | ⟨g, e, _⟩
  · exact h
  · rw [hA] at e; cases e
/-- What Clause leaves. -/
def ClsTo (S : Eng) (id : Int) (w : World) (e : Ending) (w' : World) : Prop :=
  (thereB S id = false ∧ e = .returned (.tuple #[.slice none 0 0, .bool false]) ∧ w = w') ∨
  (thereB S id = true ∧ ∃ A c, e = .returned (.tuple #[.slice A (clA S.cs id.toNat).ls.length c, .bool true]) ∧ SlV 34 1 w' A (clA S.cs id.toNat).ls.length c (lsC (clA S.cs id.toNat).ls) ∧ (∀ k, onB A k → w.heap.size ≤ k) ∧ Below w.heap.size w w')
set_option maxHeartbeats 3200000 in
set_option maxRecDepth 100000 in
theorem eclause_any {w : World} {b : Nat} {q : Pm} {S : Eng} {d K : Nat} (h : E6 w b q S d) (hS : Sf S K) (id : Int) :
    Calls Tryz.prog 41 #[.pointer (some ⟨b, 0, none⟩), .int .i64 id] w (ClsTo S id w) := by
  have HP := Lib.hid (present_any h id)
  unfold ClsTo
  cases ht : thereB S id with
  | false =>
    rw [ht] at HP
    clear h ht hS
    go_enter Tryz.func41, Tryz.ntmps41
    go_wp2_with fail
    refine HP.out.mono ?_
    rintro e w' ⟨rfl, rfl⟩
    go_wp2_with fail
    go_ret2
    exact .inl ⟨trivial, rfl, rfl⟩
  | true =>
    rw [ht] at HP
    have h3 : 0 ≤ id ∧ id < (S.cs.length : Int) := by
      unfold thereB at ht
      simp only [Bool.and_eq_true, decide_eq_true_eq] at ht
      exact ht.1
    obtain ⟨k, rfl⟩ := Int.eq_ofNat_of_zero_le h3.1
    have hk : k < S.cs.length := by omega
    rw [show (k : Int).toNat = k from rfl]
    have hlc := (h.lc k hk).1
    have hll := (hS.cl k hk).2.2.1
    obtain ⟨gc, hA, hrow, _⟩ := h.clsRow hk
    obtain ⟨c0, c1, _⟩ := h.clCells hk hA
    have hcw := hrow.bd
    obtain ⟨hcw1, hcw2⟩ := hcw
    have g1 := h.h1
    rw [hA] at g1
    have HC := Lib.hid (copy_any (q.Lc k).1 (clA S.cs k).ls.length (q.Lc k).2 (clA S.cs k).ls w (hlc.rd rfl) hlc.nil0 (by omega))
    clear h ht hS hlc hrow h3 c0
    generalize (clA S.cs k).ls = ls at *
    generalize q.Lc k = a at *
    obtain ⟨a1, a2⟩ := a
    generalize S.cs.length = n at *
    go_enter Tryz.func41, Tryz.ntmps41
    go_wp2_with fail
    refine HP.out.mono ?_
    rintro e w' ⟨rfl, rfl⟩
    go_wp2_with fail
    refine HC.out.mono ?_
    rintro e w1 ⟨v, rfl, A', c', rfl, hS, hon, hb⟩
    have HE := Lib.hid (show _ ∧ _ ∧ _ from ⟨hS, hon, hb⟩)
    clear hS hon hb HC HP
    go_wp2_with fail
    go_ret2
    exact .inr ⟨trivial, A', c', rfl, HE.out.1, HE.out.2.1, HE.out.2.2⟩
/-- What True leaves. -/
def TruTo (L : List Ent) (w : World) (e : Ending) (w' : World) : Prop :=
  e = .returned (.slice (some ⟨w.heap.size, 0, none⟩) L.length L.length) ∧ RowV 34 1 w' w.heap.size L.length L.length (lsC (L.map Ent.l)) ∧ Below w.heap.size w w'
set_option maxHeartbeats 3200000 in
set_option maxRecDepth 100000 in
theorem etrue_any {w : World} {b : Nat} {q : Pm} {S : Eng} {d : Nat} (h : E6 w b q S d) (hn : S.n ≤ 90000) :
    Calls Tryz.prog 62 #[.pointer (some ⟨b, 0, none⟩)] w (TruTo S.L w) := by
  have hlen := h.ok.len
  have h0 := h.h0
  have HLn : Hid (Calls Tryz.prog 57 #[.pointer (some ⟨q.bt, 0, none⟩)] w fun e w' => e = .returned (.int .i64 (S.L.length : Int)) ∧ w = w') := by
    obtain ⟨F, gm, cm, ao, co, az, cz, hQ, hO, _⟩ := h.trail
    exact tlen_nat w hQ
  obtain ⟨C, c1, c2, hm⟩ := make_sl (P := Tryz.prog) 36 34 Tryz.underlying36 info_rlit rfl (by decide) (by decide) S.L.length (by omega)
  have HR0 : Hid (RowV 34 1 (w.alloc (.cells C 34)) w.heap.size S.L.length S.L.length (fun _ => .int .i32 0)) := RowV.made (by omega) c1 (fun j hj => by rw [c2 j hj]; simp [Nat.mod_one]; rfl)
  have HE := Lib.hid h
  have HL := Lib.hid hlen
  unfold TruTo
  obtain ⟨L, hL⟩ : ∃ L, L = S.L := ⟨_, rfl⟩
  have HSL := Lib.hid hL
  rw [← hL] at HLn hm HR0 HL ⊢
  clear h hlen hL c1 c2
  obtain ⟨w0, rfl⟩ : ∃ w0 : World, w0 = w := ⟨_, rfl⟩
  go_enter Tryz.func62, Tryz.ntmps62
  go_wp2_with fail
  refine HLn.out.mono ?_
  rintro e w' ⟨rfl, rfl⟩
  go_wp2_with fail
  go_loopw [13, 4] (fun v _ wr => ∃ m : Nat, v = .int .i64 (m : Int) ∧ m ≤ L.length ∧ Hid (RowV 34 1 wr w0.heap.size L.length L.length (fun j => if j < m then lsC (L.map Ent.l) j else .int .i32 0)) ∧ Hid (Below w0.heap.size w0 wr)) (fun v _ _ => L.length - (intOf v).toNat)
  case atStart => exact ⟨0, rfl, by omega, HR0.out.congr (fun j hj => by simp), Lib.hid ((Below.refl _ _).alloc (Nat.le_refl _) _)⟩
  case round =>
    obtain ⟨m, rfl, hml, hR, hB⟩ := hrel
    by_cases hlt : m < L.length
    · have tm : decide ((m : Int) < (L.length : Int)) = true := decide_eq_true (by omega)
      have hEr := HE.out.below hB.out
      have h0r := hEr.h0
      have HAt : Hid (Calls Tryz.prog 59 #[.pointer (some ⟨q.bt, 0, none⟩), .int .i64 (m : Int)] wr fun e w' => e = .returned (.int .i32 ((L.map Ent.l).getD m 0)) ∧ wr = w') := by
        obtain ⟨F, gm, cm, ao, co, az, cz, hQ, hO, _⟩ := hEr.trail
        have := tat_nat wr hQ (m : Int)
        have e : atZ' S.L (m : Int) = (L.map Ent.l).getD m 0 := by
          rw [← HSL.out]
          unfold atZ'
          rw [if_pos (by omega), Int.toNat_natCast]; rfl
        rw [e] at this; exact this
      have hbd := HL.out
      have hcm : wr.cell? ⟨w0.heap.size, m, none⟩ = some (.int .i32 0) := by
        rw [hR.out.cell (show m < L.length * 1 by omega)]; simp
      have hfm := hR.out.free m
      have HN : Hid (RowV 34 1 (wr.setCell ⟨w0.heap.size, m, none⟩ (.int .i32 ((L.map Ent.l).getD m 0))) w0.heap.size L.length L.length (fun j => if j < m + 1 then lsC (L.map Ent.l) j else .int .i32 0) ∧ Below w0.heap.size w0 (wr.setCell ⟨w0.heap.size, m, none⟩ (.int .i32 ((L.map Ent.l).getD m 0)))) := by
        refine ⟨(hR.out.set (show m < L.length * 1 by omega) _).congr fun j hj => ?_, hB.out.setCell (p := ⟨w0.heap.size, m, none⟩) (Nat.le_refl _) _⟩
        by_cases e : j = m
        · subst e; rw [updV_at, if_pos (by omega)]; rfl
        · rw [updV_ne _ _ e]
          by_cases e2 : j < m
          · rw [if_pos e2, if_pos (by omega)]
          · rw [if_neg e2, if_neg (by omega)]
      clear hEr hR hB
      generalize (L.map Ent.l).getD m 0 = x at *
      go_wp2_with fail
      refine HAt.out.mono ?_
      rintro e w' ⟨rfl, rfl⟩
      go_wp2_with fail
      go_roundw
      case rel => exact ⟨m + 1, by go_num, by omega, Lib.hid HN.out.1, Lib.hid HN.out.2⟩
      case measure => simp [intOf]; omega
    · have tm : decide ((m : Int) < (L.length : Int)) = false := decide_eq_false (by omega)
      obtain rfl : m = L.length := by omega
      go_wp2_with fail
      go_ret
      exact ⟨rfl, hR.out.congr fun j hj => by rw [if_pos (by omega)], hB.out⟩
section
variable {B b : Nat} {w0 w : World} {S : Eng}
theorem Solo.clause (h : Solo B w0 w b S) (id : Int) :
    Calls Tryz.prog 41 #[.pointer (some ⟨b, 0, none⟩), .int .i64 id] w (ClsTo S id w) := by
  obtain ⟨q, hE, hI, _⟩ := h
  exact eclause_any hE hI.small id
theorem Solo.true_ (h : Solo B w0 w b S) : Calls Tryz.prog 62 #[.pointer (some ⟨b, 0, none⟩)] w (TruTo S.L w) := by
  obtain ⟨q, hE, hI, _⟩ := h
  exact etrue_any hE hI.small.n
end
end Go.Proofs.YtkckodpfhlpkgaaGreat
