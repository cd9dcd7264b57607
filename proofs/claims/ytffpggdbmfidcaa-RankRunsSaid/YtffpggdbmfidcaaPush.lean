/- append of one number to a row of the queue's own; the contracts of the queue's Push and add, of container/heap's Push. -/
import Derived.Test.YtffpggdbmfidcaaHeapF
namespace Go.Proofs.Ytffpggdbmfidcaa
open Go.RowKit HeapM

theorem info_int : (Try.prog.info? 3).map (fun i => (i.zero, i.size, i.bytes)) = some (some (.int .i64 0), 1, 8) := by kernel_rfl
theorem info_int64 : (Try.prog.info? 2).map (fun i => (i.zero, i.size, i.bytes)) = some (some (.int .i64 0), 1, 8) := by kernel_rfl

theorem cellsOf_snoc (f : Nat → Int) (n : Nat) (x : Int) : cellsOf f n ++ [.int .i64 x] = cellsOf (upd f n x) (n + 1) := by
  unfold cellsOf
  rw [List.range_succ, List.map_append]
  congr 1
  · apply List.map_congr_left
    intro j hj
    rw [List.mem_range] at hj
    rw [upd_ne _ _ (by omega)]
  · simp [upd_at]

/-- append(x, y) of one number: the same block, or a new one. -/
theorem wpList_append_row {ops : Array Oper} {rest : List Oper} {o : Oper} {a : Act} {Q : Exit → Act → World → Prop} (w : World) (hgd : o.guard = none) (s x : Operand) (t e : TypeId)
    (ho : o.op = .call { callee := .builtin .append, args := #[s, x], argTypes := #[t, t] }) (ht : Try.prog.underlying t = some (.slice e))
    (hinfo : (Try.prog.info? e).map (fun i => (i.zero, i.size, i.bytes)) = some (some (.int .i64 0), 1, 8))
    (g n cap : Nat) (f : Nat → Int) (hs : a.eval s = .slice (some ⟨g, 0, none⟩) n cap) (hrow : Row e w g n cap f) (hn : n ≤ 100000)
    (gx c : Nat) (y : Int) (hx : a.eval x = .slice (some ⟨gx, 0, none⟩) 1 c) (hy : w.cell? ⟨gx, 0, none⟩ = some (.int .i64 y))
    (h : ∀ g' cap' w', Row e w' g' (n + 1) cap' (upd f n y) → (g' = g ∨ w.heap.size ≤ g') → w.grownBy w' (some g) → wpList Try.prog ops Q rest (a.put o.dst (.slice (some ⟨g', 0, none⟩) (n + 1) cap')) w') :
    wpList Try.prog ops Q (o :: rest) a w := by
  obtain ⟨i0, hi, hz0, hz1, hz2⟩ := info_parts hinfo
  refine wpList_plain hgd fun _ hK => ?_
  have hnews : ∀ j u, [Value.int .i64 y][j]? = some u → w.cell? ((⟨gx, 0, none⟩ : Addr).add j) = some u := by
    intro j u hj
    match j, hj with
    | 0, hj => simp at hj; subst hj; simpa [Addr.add] using hy
  have h1 : ∀ u ∈ [Value.int .i64 y], u.oneCell' = true := by
    intro u hu; simp at hu; subst hu; rfl
  obtain ⟨v', w', hr, hown, hgr, _⟩ := run_append_own (P := Try.prog) w g t o.type e i0 (.int .i64 0) 1 8 ht hi hz0 hz1 hz2 rfl (by decide) (.slice (some ⟨g, 0, none⟩) n cap) n (cellsOf f n) hrow.own ⟨gx, 0, none⟩ 1 c [.int .i64 y] rfl hnews h1 (by unfold maxLen; omega) (by omega) (Nat.le_of_lt hrow.lt)
  rw [cellsOf_snoc] at hown
  have hform : ∃ g' cap', v' = .slice (some ⟨g', 0, none⟩) (n + 1) cap' ∧ (g' = g ∨ w.heap.size ≤ g') := by
    obtain ⟨cur, hh, q1, q2, q3, q4⟩ := hrow
    by_cases hroom : n + 1 ≤ cap
    · have hr2 := run_append_room (P := Try.prog) w t o.type e i0 ht hi g n cap cur hh ⟨gx, 0, none⟩ 1 c [.int .i64 y] (by rw [hz1]; rfl) hnews h1 hroom (by rw [hz1]; simp; omega)
      rw [hr] at hr2
      injection hr2 with e1 e2
      exact ⟨g, cap, e1, .inl rfl⟩
    · have holds : ∀ j u, (cellsOf f n)[j]? = some u → w.cell? ((⟨g, 0, none⟩ : Addr).add j) = some u := World.ownsRow.cells (Row.own ⟨cur, hh, q1, q2, q3, q4⟩) (g := g) rfl
      have hr2 := run_append_grow (P := Try.prog) w t o.type e i0 (.int .i64 0) ht hi hz0 ⟨g, 0, none⟩ n cap (cellsOf f n) (by rw [cellsOf_length, hz1]; omega) holds ⟨gx, 0, none⟩ 1 c [.int .i64 y] (by rw [hz1]; rfl) hnews (by omega) (by omega) (by rw [hz2]; exact growslice_fits (by omega) (by omega))
      rw [hr] at hr2
      injection hr2 with e1 e2
      exact ⟨_, _, e1, .inr (Nat.le_refl _)⟩
  obtain ⟨g', cap', rfl, hg'⟩ := hform
  unfold Oper.wp execOp
  simp only [ho, resolve, invoke, builtin, Sem.run_bind, Sem.run_pure, Result.andThen_ok, List.map_toArray, List.map_cons, List.map_nil, hs, hx, hr]
  exact hK _ _ (h g' cap' w' (Row.of_own hown) hg' hgr)

section
variable {b gs cs gp cp go co n m : Nat} {sc pl : Nat → Int} {od : Nat → Nat}

/-- The order's row has grown. -/
theorem Q3.pushO {w w' : World} {ns np : Nat} {o : Obj} {g' co' : Nat} {x : Nat} (h : Q3 w b gs cs gp cp go co ns np m sc pl od) (hr : Row 3 w' g' (m + 1) co' (upd (fun i => (od i : Int)) m (x : Int))) (hg' : g' = go ∨ w.heap.size + 1 ≤ g')
    (hg : (w.alloc o).grownBy w' (some go)) : Q3 (w'.setCell ⟨b, 2, none⟩ (.slice (some ⟨g', 0, none⟩) (m + 1) co')) b gs cs gp cp g' co' ns np (m + 1) sc pl (upd od m x) := by
  have hf := h.foot
  have hsz : (w.alloc o).heap.size = w.heap.size + 1 := by simp
  have old : ∀ k, k < w.heap.size → k ≠ go → w'.heap[k]? = w.heap[k]? := fun k hk hkg => (hg.block k (by omega) (fun e => hkg (Option.some.inj e))).trans (Below.heap_alloc _ _ _ hk)
  obtain ⟨T, hh⟩ := h.head
  obtain ⟨n1, n2, n3, n4, n5, n6⟩ := h.ne
  have fb := hf b (.inl rfl)
  have fs := hf gs (.inr (.inl rfl))
  have fp := hf gp (.inr (.inr (.inl rfl)))
  have hb' : w'.heap[b]? = w.heap[b]? := old b fb n3
  have hne : b ≠ g' ∧ gs ≠ g' ∧ gp ≠ g' := by rcases hg' with e | e; (subst e; exact ⟨n3, n5, n6⟩); (exact ⟨by omega, by omega, by omega⟩)
  refine ⟨⟨T, by rw [Lib.heap_setCell_same (hb'.trans hh)]; rfl⟩, (h.scs.same (old gs fs n5)).other (fun e => n1 e) _, (h.pls.same (old gp fp n6)).other (fun e => n2 e) _, (hr.other (fun e => hne.1 e) _).congr fun j _ => ?_, n1, n2, hne.1, n4, hne.2.1, hne.2.2⟩
  show ((upd od m x j : Nat) : Int) = upd (fun i => (od i : Int)) m (x : Int) j
  unfold upd; split <;> rfl

theorem int_of_any (x : Int) (w : World) : (Instr.typeAssert (.iface 3 (.int .i64 x)) 20 3 true).run Try.prog w = .ok (.tuple #[.int .i64 x, .bool true]) w := by kernel_rfl
/-- What Push leaves. -/
def PutPost (b gs cs gp cp go n m v : Nat) (sc pl : Nat → Int) (od : Nat → Nat) (w : World) (e : Ending) (w' : World) : Prop :=
  ∃ g' co', e = .returned (.tuple #[]) ∧ QAt w' b gs cs gp cp g' co' n (m + 1) sc (upd pl v m) (upd od m v) ∧ (g' = go ∨ w.heap.size ≤ g') ∧ Kf (Foot b gs gp go) w w'

set_option maxHeartbeats 6400000 in
set_option maxRecDepth 100000 in
theorem put_any (w : World) (h : QAt w b gs cs gp cp go co n m sc pl od) (hml : m ≤ n) (hn : n ≤ 1000) {v : Nat} (hv : v ≤ n) :
    Calls Try.prog 56 #[.pointer (some ⟨b, 0, none⟩), .iface 3 (.int .i64 v)] w (PutPost b gs cs gp cp go n m v sc pl od w) := by
  have c1 := h.h1
  have c2 := h.h2
  have cp1 := h.pls.cell (show v < n + 1 by omega)
  have fp := h.pls.free v
  have hq := (h.setP (show v < n + 1 by omega) (m : Int)).drewN 1
  have HQ : Hid (QAt (w.setCell ⟨gp, v, none⟩ (.int .i64 (m : Int))).drew b gs cs gp cp go co n m sc (upd pl v (m : Int)) od) := hq
  have HK : Hid (Kf (Foot b gs gp go) w (w.setCell ⟨gp, v, none⟩ (.int .i64 (m : Int))).drew) := ((Kf.refl _ _).set (.inl (.inr (.inr (.inl rfl)))) _).drew
  clear h hq
  have ta := int_of_any
  go_enter Try.func56, Try.ntmps56
  go_wp2_with fail
  go_region
  generalize (w.setCell ⟨gp, v, none⟩ (.int .i64 (m : Int))).drew = W1 at HQ HK ⊢
  clear c1 c2 cp1 fp ta
  have c2 := HQ.out.h2
  have hor := HQ.out.ods
  have HO : Hid (Row 3 (W1.alloc (.cells #[.int .i64 (v : Int)] 3)) go m co (fun i => (od i : Int))) := hor.alloc _
  have hb := HQ.out.lt
  clear hor
  go_wp2_with (at_builtin; refine wpList_append_row _ rfl _ _ 51 3 rfl Try.underlying51 info_int go m co _ rfl HO.out (by omega) W1.heap.size 1 (v : Int) rfl (by simp) ?_)
  intro g' co' w2 hr hg' hgr
  have HR := Lib.hid (HQ.out.pushO hr hg' hgr)
  have HF : Hid (g' = go ∨ w.heap.size ≤ g') := by
    rcases hg' with e | e
    · exact .inl e
    · exact .inr (by have := HK.out.size; omega)
  have HK2 : Hid (Kf (Foot b gs gp go) w (w2.setCell ⟨b, 2, none⟩ (.slice (some ⟨g', 0, none⟩) (m + 1) co'))) :=
    ((HK.out.alloc _).grown hgr (fun k hk => .inl (by injection hk with e; subst e; exact .inr (.inr (.inr rfl))))).set (.inl (.inl rfl)) _
  have hbn : b ≠ go := HQ.out.ne.2.2.1
  have hbk : w2.heap[b]? = W1.heap[b]? := (hgr.block b (by simp; omega) (fun e => hbn (Option.some.inj e))).trans (Below.heap_alloc _ _ _ hb)
  have d2 : w2.cell? ⟨b, 2, none⟩ = some (.slice (some ⟨go, 0, none⟩) m co) := by rw [World.cell?_of_block (w := W1) (a := ⟨b, 2, none⟩) hbk]; exact c2
  have f2 : w2.frozen? ⟨b, 2, none⟩ = false := by rw [World.frozen?_of_block (w := W1) (a := ⟨b, 2, none⟩) hbk]; exact HQ.out.free 2
  clear hr hg' hgr hbk c2 HO HK hbn hb
  go_wp2_with fail
  go_end0
  exact ⟨g', co', rfl, HR.out, HF.out, HK2.out⟩

/-- What heap.Push leaves. -/
def PushedPost (b gs cs gp cp go n m v : Nat) (sc pl : Nat → Int) (w : World) (e : Ending) (w' : World) : Prop :=
  ∃ (g' co' : Nat) (pl' : Nat → Int) (od' : Nat → Nat), e = .returned (.tuple #[]) ∧ QAt w' b gs cs gp cp g' co' n (m + 1) sc pl' od' ∧ (g' = go ∨ w.heap.size ≤ g') ∧ Kf (Foot b gs gp go) w w' ∧ Inv n (m + 1) pl' od' ∧ Hp sc od' 0 (m + 1) ∧ (∀ u, 1 ≤ u → u ≤ n → (pl' u = -1 ↔ pl u = -1 ∧ u ≠ v))

set_option maxHeartbeats 6400000 in
set_option maxRecDepth 100000 in
theorem pushed_any (w : World) (h : QAt w b gs cs gp cp go co n m sc pl od) (hI : Inv n m pl od) (hn : n ≤ 1000) (hH : Hp sc od 0 m) {v : Nat} (hv0 : 1 ≤ v) (hv : v ≤ n) (hp : pl v = -1) :
    Calls Try.prog 29 #[.iface 58 (.pointer (some ⟨b, 0, none⟩)), .iface 3 (.int .i64 v)] w (PushedPost b gs cs gp cp go n m v sc pl w) := by
  have hml := hI.le
  have HP := Lib.hid (put_any w h hml hn hv)
  have HI1 := Lib.hid (push_inv hI hv0 hv hp)
  have HU : Hid (Up sc (upd od m v) (m + 1) m) := Up.push hH
  have HA : Hid (∀ u, 1 ≤ u → u ≤ n → (upd pl v (m : Int) u = -1 ↔ pl u = -1 ∧ u ≠ v)) := fun u _ _ => by
    by_cases e : u = v
    · subst e; rw [upd_at]; simp
    · rw [upd_ne _ _ e]; simp [e]
  have ml := meth_len
  have mp := meth_push
  clear h hI hH hp
  go_enter Try.func29, Try.ntmps29
  go_wp2_with fail
  refine HP.out.mono ?_
  rintro e w1 ⟨g', co', rfl, hq, hg', hk⟩
  have HL := Lib.hid (len_any w1 hq)
  have hu := (up_any w1 hq HI1.out hn (j := m) (by omega) HU.out)
  have HUP : Hid (Calls Try.prog 37 #[.iface 58 (.pointer (some ⟨b, 0, none⟩)), .int .i64 m] w1 (PushedPost b gs cs gp cp go n m v sc pl w)) := by
    refine hu.mono ?_
    rintro e w2 ⟨pl2, od2, he, hq2, hk2, hi2, ha2, hh2⟩
    refine ⟨g', co', pl2, od2, he, hq2, hg', hk.trans hk2 (fun x hx => ?_), hi2, hh2, fun u h1 h2 => (ha2 u h1 h2).trans (HA.out u h1 h2)⟩
    rcases hx with e | e | e | e
    · exact .inl (.inl e)
    · exact .inl (.inr (.inl e))
    · exact .inl (.inr (.inr (.inl e)))
    · rcases hg' with e' | e'
      · exact .inl (.inr (.inr (.inr (e.trans e'))))
      · exact .inr (by omega)
  clear hq hg' hk hu HP HI1 HU HA
  go_wp2_with fail
  refine HL.out.mono ?_
  rintro e w' ⟨rfl, rfl⟩
  clear HL
  go_wp2_with fail
  refine HUP.out.mono ?_
  rintro e w2 ⟨g2, co2, pl2, od2, rfl, r⟩
  have HE : Hid (PushedPost b gs cs gp cp go n m v sc pl w (.returned (.tuple #[])) w2) := ⟨g2, co2, pl2, od2, rfl, r⟩
  clear r HUP
  go_wp2_with fail
  go_end0
  exact HE.out
end
end Go.Proofs.Ytffpggdbmfidcaa
