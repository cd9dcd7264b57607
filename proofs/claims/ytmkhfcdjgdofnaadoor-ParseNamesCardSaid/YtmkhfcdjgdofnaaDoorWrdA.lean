/- Package word: the closures over a string's bytes, and how many bytes of a text go on. -/
import Derived.Test.YtmkhfcdjgdofnaaDoorWrdM
import Derived.Test.YtmkhfcdjgdofnaaDoorRowV
import Derived.Test.YtmkhfcdjgdofnaaDoorShelf
import Derived.Shelf.Abstract
import Derived.Deep.DeepCutAuto
namespace Go.Proofs.YtmkhfcdjgdofnaaDoor
open Go.RowKit WrdM

theorem ret_str {a b : ByteArray} (h : a = b) : Ending.returned (.string a) = .returned (.string b) := by rw [h]
theorem ret_bool {a b : Bool} (h : a = b) : Ending.returned (.bool a) = .returned (.bool b) := by rw [h]
theorem list_mk (l : List UInt8) : (⟨l.toArray⟩ : ByteArray).data.toList = l := by simp
theorem size_mk (l : List UInt8) : (⟨l.toArray⟩ : ByteArray).size = l.length := by rw [Lib.size_eq]
theorem extract_mk (l : List UInt8) (a b : Nat) : (⟨l.toArray⟩ : ByteArray).extract a b = ⟨((l.drop a).take (b - a)).toArray⟩ := by
  apply ByteArray.ext
  rw [ByteArray.data_extract]
  apply Array.ext'
  rw [Array.toList_extract]
theorem get_mk (l : List UInt8) (k : Nat) (h : k < (⟨l.toArray⟩ : ByteArray).size) : (⟨l.toArray⟩ : ByteArray)[k]'h = l.getD k 0 := by
  rw [List.getD_eq_getElem?_getD]; rw [size_mk] at h; rw [List.getElem?_eq_getElem h]; rfl
theorem below_alloc (w : World) (o : Obj) : Below w.heap.size w (w.alloc o) := (Below.refl _ _).alloc (Nat.le_refl _) _
theorem byte_back (c : UInt8) : ((c.toNat : Int)).toNat.toUInt8 = c := by simp

/-- Is a byte one of some? -/
theorem index_in : ∀ (x : List UInt8) (c : UInt8), decide (0 ≤ Lib.indexByte x c) = x.contains c
  | [], c => rfl
  | b :: l, c => by
    have ih := index_in l c
    have hg := Lib.indexByte_ge l c
    unfold Lib.indexByte
    rw [List.contains_cons, ← ih]
    by_cases h : (b == c) = true
    · have h2 : (c == b) = true := by rw [beq_iff_eq] at h ⊢; exact h.symm
      simp [h, h2]
    · have h2 : (c == b) = false := by rw [beq_eq_false_iff_ne]; intro e; exact h (by rw [beq_iff_eq]; exact e.symm)
      simp only [Bool.not_eq_true] at h
      rw [h, h2, Bool.false_or]
      simp only [Bool.false_eq_true, if_false]
      by_cases h1 : Lib.indexByte l c = -1
      · simp [h1]
      · have : (Lib.indexByte l c == -1) = false := by rw [beq_eq_false_iff_ne]; exact h1
        rw [this]
        simp only [Bool.false_eq_true, if_false]
        have a : 0 ≤ Lib.indexByte l c + 1 := by omega
        have b : 0 ≤ Lib.indexByte l c := by omega
        simp [a, b]

theorem indexByte_any (x : List UInt8) (c : UInt8) (w : World) :
    Calls Tryd.prog 87 #[.string ⟨x.toArray⟩, .int .u8 (c.toNat : Int)] w fun e w' => e = .returned (.int .i64 (Lib.indexByte x c)) ∧ w = w' := by
  refine (Any.strings_IndexByte Tryd.lays137 ⟨x.toArray⟩ (c.toNat : Int) w).mono ?_
  rintro e w' ⟨rfl, rfl⟩
  rw [list_mk, byte_back]
  exact ⟨rfl, rfl⟩
theorem hasPrefix_any (s p : List UInt8) (w : World) :
    Calls Tryd.prog 64 #[.string ⟨s.toArray⟩, .string ⟨p.toArray⟩] w fun e w' => e = .returned (.bool (p.isPrefixOf s)) ∧ w = w' := by
  refine (Any.strings_HasPrefix Tryd.lays99 ⟨s.toArray⟩ ⟨p.toArray⟩ w).mono ?_
  rintro e w' ⟨rfl, rfl⟩
  rw [list_mk, list_mk]
  exact ⟨rfl, rfl⟩
theorem count_any (s : List UInt8) (w : World) :
    Calls Tryd.prog 84 #[.string ⟨s.toArray⟩, .string ⟨#[10]⟩] w fun e w' => e = .returned (.int .i64 (s.count 10 : Nat)) ∧ w = w' := by
  refine (Any.strings_Count_one Tryd.lays138 ⟨s.toArray⟩ 10 w).mono ?_
  rintro e w' ⟨rfl, rfl⟩
  rw [list_mk]
  exact ⟨rfl, rfl⟩

/-- A closure's two calls: over the text in its box. -/
def boxV (g : Nat) : Array Value := #[.pointer (some ⟨g, 0, none⟩)]
theorem oneOf_any (x : ByteArray) (w : World) :
    Calls Tryd.prog 63 #[.string x] w fun e w' => e = .returned (.func (.func 86) #[] #[.pointer (some ⟨w.heap.size, 0, none⟩)]) ∧ w.alloc (.cells #[.string x] 9) = w' := by
  have hmf : ∀ (fn : Fn) (first cap : Array Value) (w : World), (Instr.makeFunc fn first cap).run Tryd.prog w = .ok (.func fn first cap) w := fun _ _ _ _ => rfl
  go_enter Tryd.func63, Tryd.ntmps63
  go_wp2
  go_ret
  exact ⟨rfl, rfl⟩
theorem noneOf_any (x : ByteArray) (w : World) :
    Calls Tryd.prog 65 #[.string x] w fun e w' => e = .returned (.func (.func 89) #[] #[.pointer (some ⟨w.heap.size, 0, none⟩)]) ∧ w.alloc (.cells #[.string x] 9) = w' := by
  have hmf : ∀ (fn : Fn) (first cap : Array Value) (w : World), (Instr.makeFunc fn first cap).run Tryd.prog w = .ok (.func fn first cap) w := fun _ _ _ _ => rfl
  go_enter Tryd.func65, Tryd.ntmps65
  go_wp2
  go_ret
  exact ⟨rfl, rfl⟩
theorem in_any (x : List UInt8) (g : Nat) (c : UInt8) (w : World) (hc : w.cell? ⟨g, 0, none⟩ = some (.string ⟨x.toArray⟩)) :
    Calls Tryd.prog 86 #[.int .u8 (c.toNat : Int), .pointer (some ⟨g, 0, none⟩)] w fun e w' => e = .returned (.bool (x.contains c)) ∧ w = w' := by
  have HI := Lib.hid (indexByte_any x c)
  have HD := Lib.hid (index_in x c)
  generalize Lib.indexByte x c = k at *
  go_enter Tryd.func86, Tryd.ntmps86
  go_wp2_with (refine (HI.out _).mono ?_; rintro e w' ⟨rfl, rfl⟩)
  go_ret
  exact ⟨ret_bool HD.out, rfl⟩
theorem out_any (x : List UInt8) (g : Nat) (c : UInt8) (w : World) (hc : w.cell? ⟨g, 0, none⟩ = some (.string ⟨x.toArray⟩)) :
    Calls Tryd.prog 89 #[.int .u8 (c.toNat : Int), .pointer (some ⟨g, 0, none⟩)] w fun e w' => e = .returned (.bool (!(x.contains c))) ∧ w = w' := by
  have HI := Lib.hid (indexByte_any x c)
  have HD : Hid (decide (Lib.indexByte x c < 0) = !(x.contains c)) := by
    unfold Hid
    rw [← index_in x c, ← decide_not]
    congr 1
    simp
  generalize Lib.indexByte x c = k at *
  go_enter Tryd.func89, Tryd.ntmps89
  go_wp2_with (refine (HI.out _).mono ?_; rintro e w' ⟨rfl, rfl⟩)
  go_ret
  exact ⟨ret_bool HD.out, rfl⟩
theorem eg_in : ∀ args w, (callFunc 86 args).run Tryd.prog w = .ok (.enter 86 args) w := enters_of Tryd.func86 (by kernel_rfl) rfl
theorem eg_out : ∀ args w, (callFunc 89 args).run Tryd.prog w = .ok (.enter 89 args) w := enters_of Tryd.func89 (by kernel_rfl) rfl

theorem takeW_at (p : UInt8 → Bool) : ∀ (s : List UInt8) (k : Nat), k < s.length → p (s.getD k 0) = false → (∀ j, j < k → p (s.getD j 0) = true) → s.takeWhile p = s.take k
  | [], k, h, _, _ => absurd h (by simp)
  | c :: cs, 0, _, h, _ => by
    have : p c = false := by simpa using h
    simp [this]
  | c :: cs, k + 1, hk, h, ha => by
    have h0 : p c = true := by simpa using ha 0 (by omega)
    rw [List.takeWhile_cons, if_pos h0, List.take_succ_cons, takeW_at p cs k (by simpa using hk) (by simpa using h) (fun j hj => by simpa using ha (j + 1) (by omega))]
theorem takeW_end (p : UInt8 → Bool) (s : List UInt8) (ha : ∀ j, j < s.length → p (s.getD j 0) = true) : s.takeWhile p = s := by
  induction s with
  | nil => rfl
  | cons c cs ih =>
    have h0 : p c = true := by simpa using ha 0 (by simp)
    rw [List.takeWhile_cons, if_pos h0, ih (fun j hj => by simpa using ha (j + 1) (by simpa using hj))]

set_option maxHeartbeats 1600000 in
theorem first_any (f : Nat) (lb : Array Value) (p : UInt8 → Bool) (eg : ∀ args w, (callFunc f args).run Tryd.prog w = .ok (.enter f args) w) (s : List UInt8) (w : World) (hs : s.length ≤ 9223372036854775807)
    (hp : ∀ c : UInt8, Calls Tryd.prog f (#[.int .u8 (c.toNat : Int)] ++ lb) w fun e w' => e = .returned (.bool (p c)) ∧ w = w') :
    Calls Tryd.prog 62 #[.string ⟨s.toArray⟩, .func (.func f) #[] lb] w fun e w' => e = .returned (.string ⟨(s.takeWhile p).toArray⟩) ∧ w = w' := by
  obtain ⟨sb, hsb⟩ : ∃ sb : ByteArray, sb = ⟨s.toArray⟩ := ⟨_, rfl⟩
  have hn : sb.size = s.length := by rw [hsb, size_mk]
  have HAT : Hid (∀ (k : Nat) (h : k < sb.size), sb[k]'h = s.getD k 0) := fun k h => by subst hsb; exact get_mk s k h
  have HEX : Hid (∀ k, k ≤ s.length → sb.extract 0 k = ⟨(s.take k).toArray⟩) := fun k h => by rw [hsb, extract_mk]; rfl
  have HSB := Lib.hid hsb
  have HP := Lib.hid hp
  rw [← hsb]
  clear hsb hp
  go_enter Tryd.func62, Tryd.ntmps62
  go_wp2
  go_loopw [8] (fun i wr => ∃ k : Nat, k ≤ s.length ∧ i = .int .i64 k ∧ wr = w ∧ Hid (∀ j, j < k → p (s.getD j 0) = true)) (fun i _ => s.length - (intOf i).toNat)
  case atStart => exact ⟨0, Nat.zero_le _, rfl, rfl, fun j hj => absurd hj (by omega)⟩
  case round =>
    obtain ⟨k, hk, rfl, rfl, HA⟩ := hrel
    by_cases hlt : k < s.length
    · have t1 : decide ((k : Int) < (s.length : Int)) = true := decide_eq_true (by omega)
      have t2 : decide (k < s.length) = true := decide_eq_true hlt
      have hk2 : k < sb.size := by omega
      have hg := HAT.out k hk2
      have hc := HP.out (s.getD k 0)
      obtain ⟨c, hc0⟩ : ∃ c, c = s.getD k 0 := ⟨_, rfl⟩
      rw [← hc0] at hg hc
      have HC0 := Lib.hid hc0
      clear hc0
      rcases hx : p c with _ | _
      · rw [hx] at hc
        have HC := Lib.hid hc
        have HX := Lib.hid hx
        clear hc hx
        go_wp2_with (go_at_fn f; refine HC.out.mono ?_; rintro e w' ⟨rfl, rfl⟩)
        go_ret
        refine ⟨ret_str ?_, rfl⟩
        rw [takeW_at p s k hlt (by rw [← HC0.out]; exact HX.out) HA.out]
        exact HEX.out k hk
      · rw [hx] at hc
        have HC := Lib.hid hc
        have HX := Lib.hid hx
        clear hc hx
        go_wp2_with (go_at_fn f; refine HC.out.mono ?_; rintro e w' ⟨rfl, rfl⟩)
        go_roundw
        case rel =>
          refine ⟨k + 1, by omega, by go_num, trivial, fun j hj => ?_⟩
          by_cases e : j = k
          · rw [e, ← HC0.out]; exact HX.out
          · exact HA.out j (by omega)
        case measure => simp [intOf]; omega
    · have t1 : decide ((k : Int) < (s.length : Int)) = false := decide_eq_false (by omega)
      have t2 : decide (k < s.length) = false := decide_eq_false hlt
      go_wp2
      go_ret
      refine ⟨ret_str ?_, rfl⟩
      rw [takeW_end p s (fun j hj => HA.out j (by omega))]
      exact HSB.out
/-- Bytes of some, bytes not of some: at a closure's box. -/
theorem firstIn_any (x s : List UInt8) (g : Nat) (w : World) (hc : w.cell? ⟨g, 0, none⟩ = some (.string ⟨x.toArray⟩)) (hs : s.length ≤ 9223372036854775807) :
    Calls Tryd.prog 62 #[.string ⟨s.toArray⟩, .func (.func 86) #[] #[.pointer (some ⟨g, 0, none⟩)]] w fun e w' => e = .returned (.string ⟨(s.takeWhile x.contains).toArray⟩) ∧ w = w' :=
  first_any _ _ _ eg_in s w hs (fun c => in_any x g c w hc)
theorem firstOut_any (x s : List UInt8) (g : Nat) (w : World) (hc : w.cell? ⟨g, 0, none⟩ = some (.string ⟨x.toArray⟩)) (hs : s.length ≤ 9223372036854775807) :
    Calls Tryd.prog 62 #[.string ⟨s.toArray⟩, .func (.func 89) #[] #[.pointer (some ⟨g, 0, none⟩)]] w fun e w' => e = .returned (.string ⟨(s.takeWhile (fun c => !(x.contains c))).toArray⟩) ∧ w = w' :=
  first_any _ _ _ eg_out s w hs (fun c => out_any x g c w hc)
end Go.Proofs.YtmkhfcdjgdofnaaDoor
