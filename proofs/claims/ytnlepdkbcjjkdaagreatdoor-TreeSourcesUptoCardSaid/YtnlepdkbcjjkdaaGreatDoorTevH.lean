/- Package tree: a model's parts in memory, and whether each can be. -/
import Derived.Test.YtnlepdkbcjjkdaaGreatDoorTevF
import Derived.Test.YtnlepdkbcjjkdaaGreatDoorTevG
namespace Go.Proofs.YtnlepdkbcjjkdaaGreatDoor
open Go.RowKit TreM WrdM

/-- A slice's value, and its elements. -/
def SlV2 {α : Type} (W : World) (R : α → List Value → Prop) (k : Nat) (xs : List α) (v : Value) : Prop := ∃ (A : Option Addr) (cap : Nat), v = .slice A xs.length cap ∧ xs.length ≤ cap ∧ cap ≤ 9223372036854775807 ∧ SlAt W R k A xs
theorem SlV2.of {α : Type} {W : World} {R : α → List Value → Prop} {k : Nat} {xs : List α} {v : Value} (h : SliceC W R k xs v) : SlV2 W R k xs v := h
theorem SlV2.below {α : Type} {W W' : World} {R R' : α → List Value → Prop} {k : Nat} {xs : List α} {v : Value} (h : SlV2 W R k xs v) (hb : Below W.heap.size W W') (hR : ∀ x ∈ xs, ∀ cs, R x cs → R' x cs) : SlV2 W' R' k xs v := by
  obtain ⟨A, cap, h1, h2, h3, h4⟩ := h
  exact ⟨A, cap, h1, h2, h3, h4.below hb hR⟩
def in64 (n : Int) : Prop := -9223372036854775808 ≤ n ∧ n ≤ 9223372036854775807
def EnuC (W : World) (e : Enu) (cs : List Value) : Prop := ∃ v l c, cs = [.string ⟨e.name.toArray⟩, v, .int .i64 l, .int .i64 c] ∧ e.name.length ≤ 9223372036854775807 ∧ SlV2 W StrC 1 e.values v
def DclC (W : World) (d : Dcl) (cs : List Value) : Prop := ∃ v l c, cs = [.string ⟨d.name.toArray⟩, .string ⟨d.type.toArray⟩, .int .i64 d.low, .int .i64 d.high, v, .int .i64 l, .int .i64 c] ∧ d.name.length ≤ 9223372036854775807 ∧ d.type.length ≤ 9223372036854775807 ∧ in64 d.low ∧ in64 d.high ∧ SlV2 W (ExC W) 6 d.begins v
def AsgC (W : World) (a : Asg) (cs : List Value) : Prop := ∃ (xs : List Value) (l c : Int), xs.length = 6 ∧ cs = .string ⟨a.name.toArray⟩ :: (xs ++ [.int .i64 l, .int .i64 c]) ∧ a.name.length ≤ 9223372036854775807 ∧ ExC W a.to_ xs
def RulC (W : World) (r : Rul) (cs : List Value) : Prop := ∃ (xs : List Value) (v : Value), xs.length = 6 ∧ cs = xs ++ [v] ∧ ExC W r.when_ xs ∧ SlV2 W (AsgC W) 9 r.do_ v
def PrcC (W : World) (p : Prc) (cs : List Value) : Prop := ∃ v l c, cs = [.string ⟨p.name.toArray⟩, v, .int .i64 l, .int .i64 c] ∧ p.name.length ≤ 9223372036854775807 ∧ SlV2 W (RulC W) 7 p.rules v
theorem EnuC.below {W W' : World} (hb : Below W.heap.size W W') {e : Enu} {cs : List Value} (h : EnuC W e cs) : EnuC W' e cs := by
  obtain ⟨v, l, c, h1, h2, h3⟩ := h
  exact ⟨v, l, c, h1, h2, h3.below hb fun _ _ _ h => h⟩
theorem DclC.below {W W' : World} (hb : Below W.heap.size W W') {e : Dcl} {cs : List Value} (h : DclC W e cs) : DclC W' e cs := by
  obtain ⟨v, l, c, h1, h2, h3, h4, h5, h6⟩ := h
  exact ⟨v, l, c, h1, h2, h3, h4, h5, h6.below hb fun x _ cs h => ExC.below hb x cs h⟩
theorem AsgC.below {W W' : World} (hb : Below W.heap.size W W') {e : Asg} {cs : List Value} (h : AsgC W e cs) : AsgC W' e cs := by
  obtain ⟨xs, l, c, h1, h2, h3, h4⟩ := h
  exact ⟨xs, l, c, h1, h2, h3, ExC.below hb _ _ h4⟩
theorem RulC.below {W W' : World} (hb : Below W.heap.size W W') {e : Rul} {cs : List Value} (h : RulC W e cs) : RulC W' e cs := by
  obtain ⟨xs, v, h1, h2, h3, h4⟩ := h
  exact ⟨xs, v, h1, h2, ExC.below hb _ _ h3, h4.below hb fun x _ cs h => h.below hb⟩
theorem PrcC.below {W W' : World} (hb : Below W.heap.size W W') {e : Prc} {cs : List Value} (h : PrcC W e cs) : PrcC W' e cs := by
  obtain ⟨v, l, c, h1, h2, h3⟩ := h
  exact ⟨v, l, c, h1, h2, h3.below hb fun x _ cs h => h.below hb⟩

theorem inRange_any (n : Int) (w : World) : Calls Tryz.prog 83 #[.int .i64 n] w fun e w' => e = .returned (.bool (smallB n)) ∧ w = w' := by
  have hE : smallB n = (decide (-1000000 ≤ n) && decide (n ≤ 1000000)) := rfl
  rw [hE]
  rcases h0 : decide (-1000000 ≤ n) with _ | _
  · go_enter Tryz.func83, Tryz.ntmps83
    go_wp2
    go_ret
    exact ⟨rfl, rfl⟩
  · go_enter Tryz.func83, Tryz.ntmps83
    go_wp2
    go_ret
    exact ⟨ret_bool (by simp), rfl⟩
theorem eg_name : ∀ args w, (callFunc 43 args).run Tryz.prog w = .ok (.enter 43 args) w := enters_of Tryz.func43 (by kernel_rfl) rfl
theorem eg_wone : ∀ args w, (callFunc 49 args).run Tryz.prog w = .ok (.enter 49 args) w := enters_of Tryz.func49 (by kernel_rfl) rfl
theorem writableOne_any (X : Ex) (v : Value) (w : World) (h : ExV w X v) : Calls Tryz.prog 49 #[v] w fun e w' => e = .returned (.bool (writB X)) ∧ Below w.heap.size w w' := by
  cases X with
  | mk o n s ks l c =>
  obtain ⟨A, cap, rfl, hB, hK⟩ := h.open
  have HC := Lib.hid (writable_any _ _ 0 _ (box_alloc h))
  have HB := Lib.hid (below_alloc w (.cells #[.int .i64 o, .int .i64 n, .string ⟨s.toArray⟩, .slice A ks.length cap, .int .i64 l, .int .i64 c] 40))
  generalize writB (.mk o n s ks l c) = N at *
  generalize ks.length = m at *
  generalize (⟨s.toArray⟩ : ByteArray) = sb at *
  clear h hB hK
  go_enter Tryz.func49, Tryz.ntmps49
  go_wp2_with (refine HC.out.mono ?_; rintro e w' ⟨rfl, hB1⟩)
  go_ret
  exact ⟨rfl, HB.out.trans (hB1.mono HB.out.size)⟩
/-- Names of a slice, expressions of a slice: can they all be? -/
theorem names_every (xs : List (List UInt8)) (A : Option Addr) (cap : Nat) (w : World) (h : SlAt w StrC 1 A xs) (hm : xs.length ≤ cap) (hc : cap ≤ 9223372036854775807) :
    Calls Tryz.prog 44 #[.slice A xs.length cap, .func (.func 43) #[] #[]] w fun e w' => e = .returned (.bool (decide (xs.length ≤ 32) && xs.all nameOk)) ∧ Below w.heap.size w w' :=
  everyStr_any _ eg_name nameOk StrC xs A cap w h hm hc fun x _ cs W _ _ hR => by
    obtain ⟨rfl, hl⟩ := hR
    exact name_any x W hl
theorem exprs_every (xs : List Ex) (A : Option Addr) (cap : Nat) (w : World) (h : SlAt w (ExC w) 6 A xs) (hm : xs.length ≤ cap) (hc : cap ≤ 9223372036854775807) :
    Calls Tryz.prog 48 #[.slice A xs.length cap, .func (.func 49) #[] #[]] w fun e w' => e = .returned (.bool (decide (xs.length ≤ 32) && xs.all writB)) ∧ Below w.heap.size w w' :=
  everyExpr_any _ eg_wone writB (ExC w) xs A cap w h hm hc fun x _ cs W hW _ hR => writableOne_any x _ W ⟨cs, rfl, ExC.below hW x cs hR⟩

theorem cells4 {w : World} {g : Nat} {a b c d : Value} {t : TypeId} {q : Nat × Nat} (h : w.heap[g]? = some (.cells #[a, b, c, d] t q)) :
    w.cell? ⟨g, 0, none⟩ = some a ∧ w.cell? ⟨g, 1, none⟩ = some b ∧ w.cell? ⟨g, 2, none⟩ = some c ∧ w.cell? ⟨g, 3, none⟩ = some d := by
  refine ⟨?_, ?_, ?_, ?_⟩ <;> (rw [Lib.cell_of_heap h]; rfl)
theorem rightEnum_any (e : Enu) (cs : List Value) (w : World) (h : EnuC w e cs) : Calls Tryz.prog 15 #[.agg cs.toArray] w fun x w' => x = .returned (.bool (enumB e)) ∧ Below w.heap.size w w' := by
  obtain ⟨v, l, c, rfl, hn, A, cap, rfl, hm, hc, hA⟩ := h
  obtain ⟨wa, hwa⟩ : ∃ wa, wa = w.alloc (.cells #[.string ⟨e.name.toArray⟩, .slice A e.values.length cap, .int .i64 l, .int .i64 c] 48) := ⟨_, rfl⟩
  have hba : Below w.heap.size w wa := by rw [hwa]; exact below_alloc w _
  have hga : wa.heap[w.heap.size]? = some (.cells #[.string ⟨e.name.toArray⟩, .slice A e.values.length cap, .int .i64 l, .int .i64 c] 48) := by rw [hwa]; exact blk_new w _
  have hlt : w.heap.size < wa.heap.size := by rw [hwa]; simp
  have HN := Lib.hid (name_any e.name wa hn)
  have HE : Hid (∀ W, Below wa.heap.size wa W → Calls Tryz.prog 44 #[.slice A e.values.length cap, .func (.func 43) #[] #[]] W fun x w' => x = .returned (.bool (decide (e.values.length ≤ 32) && e.values.all nameOk)) ∧ Below W.heap.size W w') := fun W hW =>
    names_every e.values A cap W (hA.below (hba.trans (hW.mono hba.size)) fun _ _ _ h => h) hm hc
  have HC : Hid (∀ W, Below wa.heap.size wa W → W.heap[w.heap.size]? = some (.cells #[.string ⟨e.name.toArray⟩, .slice A e.values.length cap, .int .i64 l, .int .i64 c] 48)) := fun W hW => (hW.block _ hlt).trans hga
  have hE : enumB e = (nameB e.name && (decide (1 ≤ e.values.length) && (decide (e.values.length ≤ 32) && e.values.all nameOk))) := rfl
  rw [hE]
  have HBA := Lib.hid hba
  obtain ⟨c0, c1, c2, c3⟩ := cells4 hga
  have HWA := Lib.hid hwa
  clear hA hE hba hga hwa
  generalize (decide (e.values.length ≤ 32) && e.values.all nameOk) = R at *
  generalize nameB e.name = N at *
  generalize e.values.length = m at *
  generalize (⟨e.name.toArray⟩ : ByteArray) = sb at *
  go_enter Tryz.func15, Tryz.ntmps15
  go_wp2_with fail
  have hwa := HWA.out
  rw [← hwa]
  clear hwa HWA
  refine HN.out.mono ?_
  rintro x w1 ⟨rfl, hB1⟩
  have HB1 := Lib.hid hB1
  have HE1 := Lib.hid (HE.out w1 hB1)
  obtain ⟨c0, c1, c2, c3⟩ := cells4 (HC.out w1 hB1)
  clear hB1 HN
  rcases N with _ | _
  · go_wp2_with fail
    go_ret
    exact ⟨rfl, HBA.out.trans (HB1.out.mono HBA.out.size)⟩
  by_cases hm0 : 0 < m
  · have t1 : decide ((0 : Int) < (m : Int)) = true := decide_eq_true (by omega)
    have t2 : decide (0 < m) = true := decide_eq_true hm0
    have H3 : Hid (decide (1 ≤ m) = true) := decide_eq_true hm0
    go_wp2_with (refine HE1.out.mono ?_; rintro x w2 ⟨rfl, hB2⟩)
    go_ret
    exact ⟨ret_bool (by rw [H3.out]; simp), HBA.out.trans ((HB1.out.trans (hB2.mono HB1.out.size)).mono HBA.out.size)⟩
  · have t1 : decide ((0 : Int) < (m : Int)) = false := decide_eq_false (by omega)
    have t2 : decide (0 < m) = false := decide_eq_false hm0
    have H3 : Hid (decide (1 ≤ m) = false) := decide_eq_false hm0
    go_wp2_with fail
    go_ret
    exact ⟨ret_bool (by rw [H3.out]; simp), HBA.out.trans (HB1.out.mono HBA.out.size)⟩
end Go.Proofs.YtnlepdkbcjjkdaaGreatDoor
