/- The memory of a queue: three rows of numbers and the block that holds them; what stays, what turns. The contracts of a queue's own methods: Len, Less, Swap, Push, Pop. -/
import Derived.Test.YtfllhfhcmoemeaaGreatRows
import Derived.Test.YtfllhfhcmoemeaaGreatHeapM
import Derived.Test.YtfllhfhcmoemeaaGreatKf
import Derived.WalkKit
import Derived.Below
import Derived.Laws.OwnMore
import Derived.Deep.Draws
import Derived.Lib.Builder
import Derived.Lib.BufferMore
import Derived.Lib.Hide
import Derived.BigQuiet
import Derived.BigRegion
import Derived.Deep.QuietTactic
import Derived.BigGuardPart
import Derived.WalkLawsBesides
import Derived.WalkSpells
namespace Go.Proofs.YtfllhfhcmoemeaaGreat
open Go.RowKit HeapM

theorem rret_int {k : IntKind} {a b : Int} (h : a = b) : Ending.returned (.int k a) = .returned (.int k b) := by rw [h]
theorem rret_bool {a b : Bool} (h : a = b) : Ending.returned (.bool a) = .returned (.bool b) := by rw [h]

/-- Block g holds the numbers f 0 .. f (n - 1), and has room for cap. -/
def Row (T : TypeId) (w : World) (g n cap : Nat) (f : Nat → Int) : Prop :=
  ∃ cur : Array Value, w.heap[g]? = some (.cells cur T (0, 0)) ∧ n ≤ cap ∧ cap ≤ maxLen ∧ cur.size = cap ∧ ∀ j, j < n → cur[j]? = some (.int .i64 (f j))

theorem Row.lt {T : TypeId} {w : World} {g n cap : Nat} {f : Nat → Int} (h : Row T w g n cap f) : g < w.heap.size := by
  obtain ⟨cur, h, _⟩ := h
  rcases Nat.lt_or_ge g w.heap.size with h' | h'
  · exact h'
  · rw [Array.getElem?_eq_none h'] at h; cases h
theorem Row.cell {T : TypeId} {w : World} {g n cap : Nat} {f : Nat → Int} (h : Row T w g n cap f) {j : Nat} (hj : j < n) : w.cell? ⟨g, j, none⟩ = some (.int .i64 (f j)) := by
  obtain ⟨cur, h, _, _, _, hc⟩ := h
  rw [Lib.cell_of_heap h]; exact hc j hj
theorem Row.free {T : TypeId} {w : World} {g n cap : Nat} {f : Nat → Int} (h : Row T w g n cap f) (j : Nat) : w.frozen? ⟨g, j, none⟩ = false := by
  obtain ⟨cur, h, _⟩ := h
  exact Lib.frozen_of_heap h j
theorem Row.same {T : TypeId} {w w' : World} {g n cap : Nat} {f : Nat → Int} (h : Row T w g n cap f) (hb : w'.heap[g]? = w.heap[g]?) : Row T w' g n cap f := by
  obtain ⟨cur, h, r⟩ := h
  exact ⟨cur, by rw [hb]; exact h, r⟩
theorem Row.set {T : TypeId} {w : World} {g n cap : Nat} {f : Nat → Int} (h : Row T w g n cap f) {j : Nat} (hj : j < n) (x : Int) : Row T (w.setCell ⟨g, j, none⟩ (.int .i64 x)) g n cap (upd f j x) := by
  obtain ⟨cur, h, h1, h2, h3, hc⟩ := h
  refine ⟨_, Lib.heap_setCell_same h _, h1, h2, by simp [h3], fun k hk => ?_⟩
  rw [Array.getElem?_setIfInBounds]
  by_cases e : j = k
  · subst e; rw [if_pos rfl, if_pos (by omega), upd_at]
  · rw [if_neg e, upd_ne _ _ (fun x => e x.symm)]; exact hc k hk
theorem Row.other {T : TypeId} {w : World} {g n cap : Nat} {f : Nat → Int} (h : Row T w g n cap f) {a : Addr} (ha : a.block ≠ g) (v : Value) : Row T (w.setCell a v) g n cap f :=
  h.same (Below.heap_setCell _ _ _ _ (fun e => ha e.symm))
theorem Row.alloc {T : TypeId} {w : World} {g n cap : Nat} {f : Nat → Int} (h : Row T w g n cap f) (o : Obj) : Row T (w.alloc o) g n cap f :=
  h.same (Below.heap_alloc _ _ _ h.lt)
theorem Row.congr {T : TypeId} {w : World} {g n cap : Nat} {f f' : Nat → Int} (h : Row T w g n cap f) (e : ∀ j, j < n → f' j = f j) : Row T w g n cap f' := by
  obtain ⟨cur, h, h1, h2, h3, hc⟩ := h
  exact ⟨cur, h, h1, h2, h3, fun j hj => by rw [e j hj]; exact hc j hj⟩
theorem Row.less {T : TypeId} {w : World} {g n n' cap : Nat} {f : Nat → Int} (h : Row T w g n cap f) (e : n' ≤ n) : Row T w g n' cap f := by
  obtain ⟨cur, h, h1, h2, h3, hc⟩ := h
  exact ⟨cur, h, by omega, h2, h3, fun j hj => hc j (by omega)⟩
theorem Row.cap_le {T : TypeId} {w : World} {g n cap : Nat} {f : Nat → Int} (h : Row T w g n cap f) : n ≤ cap ∧ cap ≤ maxLen := by
  obtain ⟨cur, h, h1, h2, _⟩ := h
  exact ⟨h1, h2⟩
/-- As the library's own word has it. -/
def cellsOf (f : Nat → Int) (n : Nat) : List Value := (List.range n).map fun j => Value.int .i64 (f j)
theorem cellsOf_length (f : Nat → Int) (n : Nat) : (cellsOf f n).length = n := by simp [cellsOf]
theorem cellsOf_get (f : Nat → Int) {n j : Nat} (h : j < n) : (cellsOf f n)[j]? = some (.int .i64 (f j)) := by
  simp [cellsOf, List.getElem?_map, List.getElem?_range h]
theorem Row.own {T : TypeId} {w : World} {g n cap : Nat} {f : Nat → Int} (h : Row T w g n cap f) : w.ownsRow g T 1 (.slice (some ⟨g, 0, none⟩) n cap) n (cellsOf f n) := by
  obtain ⟨cur, h, h1, h2, h3, hc⟩ := h
  refine ⟨by rw [cellsOf_length]; omega, .inr ⟨g, cap, cur, rfl, Nat.le_refl _, h, h1, h2, by omega, ?_⟩⟩
  rw [Nat.mul_one]
  apply List.ext_getElem?
  intro j
  by_cases e : j < n
  · rw [cellsOf_get f e, List.getElem?_take_of_lt e, Array.getElem?_toList]; exact hc j e
  · rw [List.getElem?_eq_none (l := cellsOf f n) (by rw [cellsOf_length]; omega), List.getElem?_eq_none (by rw [List.length_take]; omega)]
theorem Row.of_own {T : TypeId} {w : World} {base g n cap : Nat} {f : Nat → Int} (h : w.ownsRow base T 1 (.slice (some ⟨g, 0, none⟩) n cap) n (cellsOf f n)) : Row T w g n cap f := by
  rcases h.2 with ⟨hv, _⟩ | ⟨g', cap', cur, hv, _, hh, h1, h2, h3, h4⟩
  · cases hv
  · injection hv with e1 e2 e3
    injection e1 with e1
    injection e1 with e1
    subst e1; subst e3
    refine ⟨cur, hh, h1, h2, by omega, fun j hj => ?_⟩
    rw [← Array.getElem?_toList, ← List.getElem?_take_of_lt (show j < n * 1 by omega), h4]
    exact cellsOf_get f hj

/-- A queue at block b: n variables with scores sc at places pl, of which m wait in the order od; its rows' blocks and room. -/
structure Q3 (w : World) (b gs cs gp cp go co ns np m : Nat) (sc pl : Nat → Int) (od : Nat → Nat) : Prop where
  head : ∃ T, w.heap[b]? = some (.cells #[.slice (some ⟨gs, 0, none⟩) ns cs, .slice (some ⟨gp, 0, none⟩) np cp, .slice (some ⟨go, 0, none⟩) m co] T (0, 0))
  scs : Row 2 w gs ns cs sc
  pls : Row 3 w gp np cp pl
  ods : Row 3 w go m co (fun i => (od i : Int))
  ne : b ≠ gs ∧ b ≠ gp ∧ b ≠ go ∧ gs ≠ gp ∧ gs ≠ go ∧ gp ≠ go
/-- A queue of n variables. -/
abbrev QAt (w : World) (b gs cs gp cp go co n m : Nat) (sc pl : Nat → Int) (od : Nat → Nat) : Prop := Q3 w b gs cs gp cp go co (n + 1) (n + 1) m sc pl od
/-- Its blocks. -/
def Foot (b gs gp go : Nat) : Nat → Prop := fun k => k = b ∨ k = gs ∨ k = gp ∨ k = go
section
variable {w w' : World} {b gs cs gp cp go co ns np m : Nat} {sc pl : Nat → Int} {od : Nat → Nat}
theorem Q3.h0 (h : Q3 w b gs cs gp cp go co ns np m sc pl od) : w.cell? ⟨b, 0, none⟩ = some (.slice (some ⟨gs, 0, none⟩) ns cs) := by
  obtain ⟨T, h⟩ := h.head; rw [Lib.cell_of_heap h]; rfl
theorem Q3.h1 (h : Q3 w b gs cs gp cp go co ns np m sc pl od) : w.cell? ⟨b, 1, none⟩ = some (.slice (some ⟨gp, 0, none⟩) np cp) := by
  obtain ⟨T, h⟩ := h.head; rw [Lib.cell_of_heap h]; rfl
theorem Q3.h2 (h : Q3 w b gs cs gp cp go co ns np m sc pl od) : w.cell? ⟨b, 2, none⟩ = some (.slice (some ⟨go, 0, none⟩) m co) := by
  obtain ⟨T, h⟩ := h.head; rw [Lib.cell_of_heap h]; rfl
theorem Q3.free (h : Q3 w b gs cs gp cp go co ns np m sc pl od) (j : Nat) : w.frozen? ⟨b, j, none⟩ = false := by
  obtain ⟨T, h⟩ := h.head; exact Lib.frozen_of_heap h j
theorem Q3.lt (h : Q3 w b gs cs gp cp go co ns np m sc pl od) : b < w.heap.size := by
  obtain ⟨T, h⟩ := h.head
  rcases Nat.lt_or_ge b w.heap.size with h' | h'
  · exact h'
  · rw [Array.getElem?_eq_none h'] at h; cases h
theorem Q3.foot (h : Q3 w b gs cs gp cp go co ns np m sc pl od) : ∀ k, Foot b gs gp go k → k < w.heap.size := by
  rintro k (rfl | rfl | rfl | rfl)
  · exact h.lt
  · exact h.scs.lt
  · exact h.pls.lt
  · exact h.ods.lt
theorem Q3.same (h : Q3 w b gs cs gp cp go co ns np m sc pl od) (hb : ∀ k, Foot b gs gp go k → w'.heap[k]? = w.heap[k]?) : Q3 w' b gs cs gp cp go co ns np m sc pl od := by
  obtain ⟨T, hh⟩ := h.head
  exact ⟨⟨T, by rw [hb b (.inl rfl)]; exact hh⟩, h.scs.same (hb _ (.inr (.inl rfl))), h.pls.same (hb _ (.inr (.inr (.inl rfl)))), h.ods.same (hb _ (.inr (.inr (.inr rfl)))), h.ne⟩
theorem Q3.drewN (h : Q3 w b gs cs gp cp go co ns np m sc pl od) (q : Nat) : Q3 (w.drewN q) b gs cs gp cp go co ns np m sc pl od := h.same fun _ _ => rfl
theorem Q3.kept {F : Nat → Prop} (h : Q3 w b gs cs gp cp go co ns np m sc pl od) (hk : Kf F w w') (hF : ∀ k, Foot b gs gp go k → ¬ F k) : Q3 w' b gs cs gp cp go co ns np m sc pl od :=
  h.same fun k hf => hk.block k (h.foot k hf) (hF k hf)
theorem Q3.setS (h : Q3 w b gs cs gp cp go co ns np m sc pl od) {j : Nat} (hj : j < ns) (x : Int) : Q3 (w.setCell ⟨gs, j, none⟩ (.int .i64 x)) b gs cs gp cp go co ns np m (upd sc j x) pl od := by
  obtain ⟨T, hh⟩ := h.head
  obtain ⟨n1, n2, n3, n4, n5, n6⟩ := h.ne
  exact ⟨⟨T, by rw [Below.heap_setCell _ _ _ _ n1]; exact hh⟩, h.scs.set hj x, h.pls.other (fun e => n4 e) _, h.ods.other (fun e => n5 e) _, h.ne⟩
theorem Q3.setP (h : Q3 w b gs cs gp cp go co ns np m sc pl od) {j : Nat} (hj : j < np) (x : Int) : Q3 (w.setCell ⟨gp, j, none⟩ (.int .i64 x)) b gs cs gp cp go co ns np m sc (upd pl j x) od := by
  obtain ⟨T, hh⟩ := h.head
  obtain ⟨n1, n2, n3, n4, n5, n6⟩ := h.ne
  exact ⟨⟨T, by rw [Below.heap_setCell _ _ _ _ n2]; exact hh⟩, h.scs.other (fun e => n4 e.symm) _, h.pls.set hj x, h.ods.other (fun e => n6 e) _, h.ne⟩
theorem Q3.setO (h : Q3 w b gs cs gp cp go co ns np m sc pl od) {j : Nat} (hj : j < m) (x : Nat) : Q3 (w.setCell ⟨go, j, none⟩ (.int .i64 (x : Int))) b gs cs gp cp go co ns np m sc pl (upd od j x) := by
  obtain ⟨T, hh⟩ := h.head
  obtain ⟨n1, n2, n3, n4, n5, n6⟩ := h.ne
  refine ⟨⟨T, by rw [Below.heap_setCell _ _ _ _ n3]; exact hh⟩, h.scs.other (fun e => n5 e.symm) _, h.pls.other (fun e => n6 e.symm) _, (h.ods.set hj (x : Int)).congr fun k _ => ?_, h.ne⟩
  show ((upd od j x k : Nat) : Int) = upd (fun i => (od i : Int)) j (x : Int) k
  unfold upd; split <;> rfl
theorem Q3.cut (h : Q3 w b gs cs gp cp go co ns np (m + 1) sc pl od) : Q3 (w.setCell ⟨b, 2, none⟩ (.slice (some ⟨go, 0, none⟩) m co)) b gs cs gp cp go co ns np m sc pl od := by
  obtain ⟨T, hh⟩ := h.head
  obtain ⟨n1, n2, n3, n4, n5, n6⟩ := h.ne
  refine ⟨⟨T, by rw [Lib.heap_setCell_same hh]; rfl⟩, h.scs.other (fun e => n1 e) _, h.pls.other (fun e => n2 e) _, (h.ods.less (Nat.le_succ m)).other (fun e => n3 e) _, h.ne⟩
end
end Go.Proofs.YtfllhfhcmoemeaaGreat
namespace Go.Proofs.YtfllhfhcmoemeaaGreat
open Go.RowKit HeapM

section
variable {b gs cs gp cp go co n m : Nat} {sc pl : Nat → Int} {od : Nat → Nat}

set_option maxHeartbeats 1600000 in
set_option maxRecDepth 100000 in
theorem qlen_any (w : World) (h : QAt w b gs cs gp cp go co n m sc pl od) :
    Calls Tryz.prog 142 #[.pointer (some ⟨b, 0, none⟩)] w fun e w' => e = .returned (.int .i64 m) ∧ w = w' := by
  have c2 := h.h2
  clear h
  go_enter Tryz.func142, Tryz.ntmps142
  go_wp2
  go_ret
  exact ⟨rfl, rfl⟩

set_option maxHeartbeats 3200000 in
set_option maxRecDepth 100000 in
theorem less_nat (w : World) (h : QAt w b gs cs gp cp go co n m sc pl od) (hI : Inv n m pl od) (_ : n ≤ 1000) {i k : Nat} (hi : i < m) (hk : k < m) :
    Calls Tryz.prog 195 #[.pointer (some ⟨b, 0, none⟩), .int .i64 i, .int .i64 k] w fun e w' => e = .returned (.bool (lessB sc (od i) (od k))) ∧ ∃ q, w' = w.drewN q := by
  have c0 := h.h0
  have c2 := h.h2
  obtain ⟨a1, a2, _⟩ := hI.fwd i hi
  obtain ⟨b1, b2, _⟩ := hI.fwd k hk
  have ci := h.ods.cell hi
  have ck := h.ods.cell hk
  have hml := hI.le
  have di := h.scs.cell (show od i < n + 1 by omega)
  have dk := h.scs.cell (show od k < n + 1 by omega)
  clear h hI
  generalize hv : od i = v at *
  generalize hu : od k = u at *
  generalize hx : sc v = x at *
  generalize hy : sc u = y at *
  have HL : Hid (lessB sc v u = decide (y < x ∨ (x = y ∧ v < u))) := by unfold Hid; rw [← hx, ← hy]; rfl
  clear hv hu hx hy
  by_cases hne : x = y
  · subst hne
    have t1 : (x != x) = false := by simp
    go_enter Tryz.func195, Tryz.ntmps195
    go_wp2_with fail
    go_quiet (fail)
    go_wp2_with fail
    go_quiet (fail)
    go_wp2_with fail
    go_ret
    exact ⟨rret_bool (by rw [HL.out]; simp), ⟨_, by first | rfl | (simp only [World.drewN_drewN]; rfl)⟩⟩
  · have t1 : (x != y) = true := by rw [bne_iff_ne]; exact hne
    go_enter Tryz.func195, Tryz.ntmps195
    go_wp2_with fail
    go_quiet (fail)
    go_wp2_with fail
    go_quiet (fail)
    go_wp2_with fail
    go_quiet (fail)
    go_wp2_with fail
    go_ret
    exact ⟨rret_bool (by rw [HL.out]; simp [hne]), ⟨_, by first | rfl | (simp only [World.drewN_drewN]; rfl)⟩⟩

set_option maxHeartbeats 6400000 in
set_option maxRecDepth 1000000 in
theorem swap_nat (w : World) (h : QAt w b gs cs gp cp go co n m sc pl od) (hI : Inv n m pl od) (_ : n ≤ 1000) {i k : Nat} (hi : i < m) (hk : k < m) :
    Calls Tryz.prog 198 #[.pointer (some ⟨b, 0, none⟩), .int .i64 i, .int .i64 k] w fun e w' => e = .returned (.tuple #[]) ∧ QAt w' b gs cs gp cp go co n m sc (swP pl od i k) (swO od i k) ∧ Kf (Foot b gs gp go) w w' := by
  have c2 := h.h2
  have ci := h.ods.cell hi
  have ck := h.ods.cell hk
  have fo := h.ods.free
  obtain ⟨s1, e1⟩ : ∃ s1, (w.setCell ⟨go, i, none⟩ (.int .i64 (od k : Int))).cell? ⟨go, k, none⟩ = some s1 := ⟨_, (h.ods.set hi (od k : Int)).cell hk⟩
  obtain ⟨s2, e2⟩ : ∃ s2, (w.setCell ⟨go, k, none⟩ (.int .i64 (od i : Int))).cell? ⟨go, i, none⟩ = some s2 := ⟨_, (h.ods.set hk (od i : Int)).cell hi⟩
  have hml := hI.le
  have HQ := Lib.hid h
  have HI := Lib.hid hI
  clear h hI
  generalize hv : od i = v at *
  generalize hu : od k = u at *
  have HV := Lib.hid hv
  have HU := Lib.hid hu
  clear hv hu
  go_enter Tryz.func198, Tryz.ntmps198
  go_wp2_with fail
  go_region
  have HQ1 : Hid (QAt (((w.setCell ⟨go, i, none⟩ (.int .i64 (u : Int))).setCell ⟨go, k, none⟩ (.int .i64 (v : Int))).drew) b gs cs gp cp go co n m sc pl (swO od i k)) := by
    have := (HQ.out.setO hi u).setO hk v
    rw [← HU.out, ← HV.out] at this ⊢
    exact this.drewN 1
  have HK1 : Hid (Kf (Foot b gs gp go) w (((w.setCell ⟨go, i, none⟩ (.int .i64 (u : Int))).setCell ⟨go, k, none⟩ (.int .i64 (v : Int))).drew)) :=
    (((Kf.refl _ _).set (.inl (.inr (.inr (.inr rfl)))) _).set (.inl (.inr (.inr (.inr rfl)))) _).drew
  generalize (((w.setCell ⟨go, i, none⟩ (.int .i64 (u : Int))).setCell ⟨go, k, none⟩ (.int .i64 (v : Int))).drew) = W1 at HQ1 HK1 ⊢
  clear c2 ci ck fo e1 e2
  have hoi : swO od i k i = u := by
    rw [swO_at, ← HU.out]; split
    · rename_i e; rw [e]
    · rw [if_pos rfl]
  have hok : swO od i k k = v := by rw [swO_r, HV.out]
  have hui := HI.out.fwd k hk
  have hvi := HI.out.fwd i hi
  rw [HU.out] at hui
  rw [HV.out] at hvi
  have hun : u < n + 1 := by omega
  have hvn : v < n + 1 := by omega
  clear hui hvi
  have c1 := HQ1.out.h1
  have c2 := HQ1.out.h2
  have ci := HQ1.out.ods.cell hi
  have cu := HQ1.out.pls.cell hun
  have fp := HQ1.out.pls.free u
  rw [hoi] at ci
  go_wp2_with fail
  go_region
  have HQ2 : Hid (QAt ((W1.setCell ⟨gp, u, none⟩ (.int .i64 (i : Int))).drew) b gs cs gp cp go co n m sc (upd pl u i) (swO od i k)) := (HQ1.out.setP hun (i : Int)).drewN 1
  have HK2 : Hid (Kf (Foot b gs gp go) w ((W1.setCell ⟨gp, u, none⟩ (.int .i64 (i : Int))).drew)) := (HK1.out.set (.inl (.inr (.inr (.inl rfl)))) _).drew
  generalize ((W1.setCell ⟨gp, u, none⟩ (.int .i64 (i : Int))).drew) = W2 at HQ2 HK2 ⊢
  clear c1 c2 ci cu fp HQ1 HK1
  have c1 := HQ2.out.h1
  have c2 := HQ2.out.h2
  have ci := HQ2.out.ods.cell hk
  have cu := HQ2.out.pls.cell hvn
  have fp := HQ2.out.pls.free v
  rw [hok] at ci
  go_wp2_with fail
  go_region
  have HQ3 : Hid (QAt ((W2.setCell ⟨gp, v, none⟩ (.int .i64 (k : Int))).drew) b gs cs gp cp go co n m sc (swP pl od i k) (swO od i k)) := by
    have := (HQ2.out.setP hvn (k : Int)).drewN 1
    unfold swP
    rw [HU.out, HV.out]
    exact this
  have HK3 : Hid (Kf (Foot b gs gp go) w ((W2.setCell ⟨gp, v, none⟩ (.int .i64 (k : Int))).drew)) := (HK2.out.set (.inl (.inr (.inr (.inl rfl)))) _).drew
  go_end0
  exact ⟨rfl, HQ3.out, HK3.out⟩

set_option maxHeartbeats 3200000 in
set_option maxRecDepth 100000 in
theorem pop_nat (w : World) (h : QAt w b gs cs gp cp go co n (m + 1) sc pl od) (hI : Inv n (m + 1) pl od) (_ : n ≤ 1000) :
    Calls Tryz.prog 196 #[.pointer (some ⟨b, 0, none⟩)] w fun e w' => e = .returned (.iface 3 (.int .i64 (od m : Int))) ∧ QAt w' b gs cs gp cp go co n m sc (upd pl (od m) (-1)) od ∧ Kf (Foot b gs gp go) w w' := by
  have c2 := h.h2
  have cm := h.ods.cell (Nat.lt_succ_self m)
  have f2 := h.free 2
  obtain ⟨a1, a2, _⟩ := hI.fwd m (Nat.lt_succ_self m)
  have hml := hI.le
  have hco := h.ods.cap_le
  have hmx : co ≤ 9223372036854775807 := by have := hco.2; unfold maxLen at this; omega
  have hco1 := hco.1
  clear hco
  have HQ1 := Lib.hid h.cut
  have HQ2 := Lib.hid ((h.cut).setP (show od m < n + 1 by omega) (-1))
  clear h hI
  have c1 := HQ1.out.h1
  have cp1 := HQ1.out.pls.cell (show od m < n + 1 by omega)
  have fp := HQ1.out.pls.free (od m)
  generalize hv : od m = v at *
  have HV := Lib.hid hv
  clear hv
  go_enter Tryz.func196, Tryz.ntmps196
  go_wp2
  go_ret
  exact ⟨rfl, HQ2.out, ((Kf.refl _ _).set (.inl (.inl rfl)) _).set (.inl (.inr (.inr (.inl rfl)))) _⟩
end
end Go.Proofs.YtfllhfhcmoemeaaGreat
