/- What the rows of layer 9 open besides: a log of steps. Rows of clauses in new memory: appends; the plain answer's Clauses of a log. The plain answer's Clauses of a log, and whether a formula and a log are too great. -/
import Derived.Test.YtkckodpfhlpkgaaGreatHandD
import Derived.ProofKit
import Derived.OpenShut
import Derived.SizedLaws
import Derived.Deep.DeepCutAuto
import Derived.Deep.Slices
import Derived.Deep.Fields
import Derived.ChangeSame
import Derived.Test.YtkckodpfhlpkgaaGreatOwn
namespace Go.Proofs.YtkckodpfhlpkgaaGreat
set_option maxRecDepth 100000
open Go.ChangeShapes Go.WideShapes Go.ChangeAt Go.RowKit LitM TrailM EngM CnfP

theorem cells_step : Tryz.prog.cellsOf 41 = 2 := by kernel_rfl
theorem one_of {cs : List Value} {i : Nat} {u : Value} (h : (cs.drop i).take 1 = [u]) : cs[i]? = some u := by
  have : ((cs.drop i).take 1)[0]? = some u := by rw [h]; rfl
  simpa using this
/-- A log that came in. -/
theorem open_steps {H : Type} {enc : TypeId × Value → H} {W : World} {base : Nat} {v : Value} {d : DataW H} {p : List MemPlace} (hok : Value.okWide Tryz.prog W .any base 25 v)
    (h : DataW.Trod enc Tryz.prog W 0 (fun _ => true) true 25 v d p) :
    ∃ A n c log, v = .slice A n c ∧ RdS W W.heap.size A n log ∧ (∀ s ∈ log, In32 s.2) ∧ (∀ s ∈ log, s.2.length ≤ 9223372036854775807) ∧ n ≤ 9223372036854775807 ∧ (A = none → n = 0 ∧ c = 0) ∧ n ≤ c ∧ c ≤ 9223372036854775807 := by
  obtain ⟨a0, len, cap, rfl⟩ := okWide_slice Tryz.underlying25 hok
  obtain ⟨fuel, hf⟩ := h
  rcases Go.Deep.open_slice Tryz.underlying25 hf with ⟨hcs, _⟩ | ⟨a, len', cap', m, n0, D, Pl, hcs, _, hl, hmx, hm, _, hi⟩
  · simp [Value.cells] at hcs
    obtain ⟨rfl, rfl, rfl⟩ := hcs
    exact ⟨none, 0, 0, [], rfl, ⟨rfl, fun h => absurd h (by omega)⟩, by simp, by simp, by omega, fun _ => ⟨rfl, rfl⟩, by omega, by omega⟩
  · simp [Value.cells] at hcs
    obtain ⟨rfl, rfl, rfl⟩ := hcs
    simp only [if_true] at hm
    have hmax : cap ≤ 9223372036854775807 := by unfold maxLen at hmx; omega
    have elem : ∀ j, j < len → ∃ (g : Bool) (Aj : Option Addr) (nj cj : Nat) (xs : List Int), W.cell? (a.add (j * 2)) = some (.bool g) ∧ W.cell? (a.add (j * 2 + 1)) = some (.slice Aj nj cj) ∧ Rd .i32 W W.heap.size Aj nj xs ∧ In32 xs ∧ nj ≤ 9223372036854775807 := by
     intro j hj
     obtain ⟨cs, hc, ht⟩ := hi j (by omega)
     rw [cells_step] at hc
     obtain ⟨y0, y1, n1, _, _, h0, h1⟩ := trod_struct2 Tryz.underlying41 ht
     obtain ⟨_, hcl, hat⟩ := World.cells?_some hc
     obtain ⟨g, hg, _⟩ := DataW.trod_bool Tryz.underlying4 h0
     rw [show Tryz.prog.cellsOf 4 = 1 from by kernel_rfl] at hg
     have g0 : W.cell? (a.add (j * 2)) = some (.bool g) := by
       have := hat 0 (by omega)
       rw [Go.Deep.add_add] at this
       exact this.trans (one_of hg)
     have g1 : ∀ u, (cs.drop 1).take 1 = [u] → W.cell? (a.add (j * 2 + 1)) = some u := fun u hu => by
       have := hat 1 (by omega)
       rw [Go.Deep.add_add] at this
       exact this.trans (one_of hu)
     rw [cells_row] at h1
     rcases open_ints Tryz.underlying36 Tryz.underlying34 cells_lit h1 with ⟨hcs, _⟩ | ⟨a1, len1, cap1, zs, hcs, _, hl1, hmx1, hz, _, hcell, hwz⟩
     · exact ⟨g, none, 0, 0, [], g0, g1 _ hcs, Rd.nil, In32.of (by simp), by omega⟩
     · simp only [if_true] at hz
       exact ⟨g, some a1, len1, cap1, zs.take len1, g0, g1 _ hcs, rd_of hl1 hz (fun e => by cases e) (fun a' ha' c hc => by cases ha'; exact hcell c (by omega)), In32.of fun x hx => i32_of (hwz x (List.mem_of_mem_take hx)), by unfold maxLen at hmx1; omega⟩
    have elem2 : ∀ j, ∃ (s : Bool × List Int) (Aj : Option Addr) (nj cj : Nat), j < len → W.cell? (a.add (j * 2)) = some (.bool s.1) ∧ W.cell? (a.add (j * 2 + 1)) = some (.slice Aj nj cj) ∧ Rd .i32 W W.heap.size Aj nj s.2 ∧ In32 s.2 ∧ nj ≤ 9223372036854775807 := fun j => by
      by_cases hj : j < len
      · obtain ⟨g, Aj, nj, cj, xs, h⟩ := elem j hj
        exact ⟨(g, xs), Aj, nj, cj, fun _ => h⟩
      · exact ⟨(false, []), none, 0, 0, fun h => absurd h hj⟩
    clear elem
    have hF := Classical.axiomOfChoice elem2
    obtain ⟨F, hF⟩ := hF
    have hget : ∀ j, j < len → ((List.range len).map F).getD j (false, []) = F j := fun j hj => by
      simp [List.getD, List.getElem?_map, List.getElem?_range hj]
    have hmem : ∀ s ∈ (List.range len).map F, ∃ j, j < len ∧ F j = s := fun s hs => by
      obtain ⟨j, hj, e⟩ := List.mem_map.1 hs
      exact ⟨j, List.mem_range.1 hj, e⟩
    refine ⟨some a, len, cap, (List.range len).map F, rfl, ⟨by simp, fun hn => ?_⟩, fun s hs => ?_, fun s hs => ?_, by omega, (fun e => by cases e), hl, hmax⟩
    · obtain ⟨b, off, spot⟩ := a
      have z0 := (hF 0).elim fun _ h => h.elim fun _ h => h.elim fun _ h => (h hn).1
      have hspot : spot = none := by simpa [Addr.add] using World.cell?_spot z0
      subst hspot
      rw [add_plain] at z0
      refine ⟨b, off, rfl, World.block_lt_of_cell? _ _ z0, fun j hj => ?_⟩
      obtain ⟨Aj, nj, cj, h⟩ := hF j
      obtain ⟨h1, h2, h3, _, _⟩ := h hj
      rw [add_plain] at h1 h2
      rw [hget j hj]
      exact ⟨Aj, nj, cj, h1, h2, h3⟩
    · obtain ⟨j, hj, rfl⟩ := hmem s hs
      obtain ⟨Aj, nj, cj, h⟩ := hF j
      exact (h hj).2.2.2.1
    · obtain ⟨j, hj, rfl⟩ := hmem s hs
      obtain ⟨Aj, nj, cj, h⟩ := hF j
      rw [(h hj).2.2.1.len]
      exact (h hj).2.2.2.2
end Go.Proofs.YtkckodpfhlpkgaaGreat
namespace Go.Proofs.YtkckodpfhlpkgaaGreat
set_option maxRecDepth 100000
open Go.ChangeShapes Go.WideShapes Go.ChangeAt Go.RowKit LitM TrailM EngM CnfP Go.Deep

theorem info_row9 : (Tryz.prog.info? 36).map (fun i => (i.zero, i.size, i.bytes)) = some (some (.slice none 0 0), 1, 24) := by kernel_rfl
/-- Clauses that can be read, in blocks below Bd, the row of them anywhere. -/
structure RdG (w : World) (Bd : Nat) (A : Option Addr) (n : Nat) (cs : List (List Int)) : Prop where
  len : cs.length = n
  at_ : 0 < n → ∃ b o, A = some ⟨b, o, none⟩ ∧ b < w.heap.size ∧ ∀ j, j < n → ∃ Aj nj cj, w.cell? ⟨b, o + j, none⟩ = some (.slice Aj nj cj) ∧ Rd .i32 w Bd Aj nj (cs.getD j [])
theorem RdF.gg {w : World} {B n : Nat} {A : Option Addr} {cs : List (List Int)} (h : RdF w B A n cs) (hB : B ≤ w.heap.size) : RdG w B A n cs :=
  ⟨h.len, fun hn => by
    obtain ⟨b, o, e, hb, hc⟩ := h.at_ hn
    exact ⟨b, o, e, by omega, hc⟩⟩
theorem RdG.ff {w : World} {B n : Nat} {A : Option Addr} {cs : List (List Int)} (h : RdG w B A n cs) (hB : B ≤ w.heap.size) : RdF w w.heap.size A n cs :=
  ⟨h.len, fun hn => by
    obtain ⟨b, o, e, hb, hc⟩ := h.at_ hn
    refine ⟨b, o, e, hb, fun j hj => ?_⟩
    obtain ⟨Aj, nj, cj, h1, h2⟩ := hc j hj
    exact ⟨Aj, nj, cj, h1, h2.more hB⟩⟩
theorem RdG.below {w w' : World} {B n : Nat} {A : Option Addr} {cs : List (List Int)} (h : RdG w B A n cs) (hB : B ≤ w.heap.size) (hb : Below w.heap.size w w') : RdG w' B A n cs :=
  ⟨h.len, fun hn => by
    obtain ⟨b, o, e, hl, hc⟩ := h.at_ hn
    refine ⟨b, o, e, Nat.lt_of_lt_of_le hl hb.size, fun j hj => ?_⟩
    obtain ⟨Aj, nj, cj, h1, h2⟩ := hc j hj
    exact ⟨Aj, nj, cj, (hb.cell (p := ⟨b, o + j, none⟩) hl).trans h1, h2.keep fun p hp => hb.cell (by omega)⟩⟩
/-- A row of clauses of the call's own; the clauses lie below Bd. -/
def OwnF (w : World) (Bd base : Nat) (v : Value) (cs : List (List Int)) : Prop :=
  ∃ vs : List Value, w.ownsRow base 36 1 v cs.length vs ∧ ∀ j, j < cs.length → ∃ Aj nj cj, vs[j]? = some (.slice Aj nj cj) ∧ Rd .i32 w Bd Aj nj (cs.getD j [])
theorem OwnF.nil (w : World) (Bd base : Nat) : OwnF w Bd base (.slice none 0 0) [] := ⟨[], World.ownsRow_nil _ _ _ _, fun j hj => by simp at hj⟩
theorem OwnF.zero (w : World) (Bd base : Nat) (hb : base ≤ w.heap.size) : OwnF (w.alloc (.cells #[] 36)) Bd base (.slice (some ⟨w.heap.size, 0, none⟩) 0 0) [] :=
  ⟨[], World.ownsRow_made w #[] 0 hb (by unfold maxLen; omega) rfl, fun j hj => by simp at hj⟩
theorem OwnF.below {w w' : World} {Bd base : Nat} {v : Value} {cs : List (List Int)} (h : OwnF w Bd base v cs) (hB : Bd ≤ w.heap.size) (hb : Below w.heap.size w w') : OwnF w' Bd base v cs := by
  obtain ⟨vs, ho, hr⟩ := h
  refine ⟨vs, ⟨ho.1, ?_⟩, fun j hj => ?_⟩
  · rcases ho.2 with h' | ⟨g, cap, cur, hv, hg, hh, r⟩
    · exact .inl h'
    · exact .inr ⟨g, cap, cur, hv, hg, (hb.block g (lt_of_heap hh)).trans hh, r⟩
  · obtain ⟨Aj, nj, cj, h1, h2⟩ := hr j hj
    exact ⟨Aj, nj, cj, h1, h2.keep fun p hp => hb.cell (by omega)⟩
theorem OwnF.form {w : World} {Bd base : Nat} {v : Value} {cs : List (List Int)} (h : OwnF w Bd base v cs) : ∃ A c, v = .slice A cs.length c ∧ RdG w Bd A cs.length cs ∧ (A = none → cs.length = 0 ∧ c = 0) := by
  obtain ⟨vs, ho, hr⟩ := h
  rcases ho.2 with ⟨rfl, h0⟩ | ⟨g, cap, cur, rfl, hg, hh, hc, hm, hs, ht⟩
  · exact ⟨none, 0, by rw [h0], ⟨rfl, fun hn => by omega⟩, fun _ => ⟨h0, rfl⟩⟩
  · refine ⟨_, _, rfl, ⟨rfl, fun hn => ⟨g, 0, rfl, lt_of_heap hh, fun j hj => ?_⟩⟩, fun e => by cases e⟩
    obtain ⟨Aj, nj, cj, h1, h2⟩ := hr j hj
    refine ⟨Aj, nj, cj, ?_, h2⟩
    rw [Lib.cell_of_heap hh]
    rw [← ht, List.getElem?_take_of_lt (by omega)] at h1
    simpa using h1
/-- Clauses are appended. -/
theorem wpList_append_rows {w : World} {ops : Array Oper} {rest : List Oper} {o : Oper} {a : Act} {Q : Exit → Act → World → Prop} (hgd : o.guard = none) (s x : Operand)
    (ho : o.op = .call { callee := .builtin .append, args := #[s, x], argTypes := #[22, 22] })
    (Bd base : Nat) (v : Value) (cs : List (List Int)) (hs : a.eval s = v) (hown : OwnF w Bd base v cs) (hBd : Bd ≤ base)
    (A : Option Addr) (m c : Nat) (ds : List (List Int)) (hx : a.eval x = .slice A m c) (hA : A = none → m = 0 ∧ c = 0) (hR : RdG w Bd A m ds)
    (hbytes : (cs.length + m) * 24 ≤ 140737488355328) (hbase : base ≤ w.heap.size)
    (h : ∀ v' w', OwnF w' Bd base v' (cs ++ ds) → Below base w w' → wpList Tryz.prog ops Q rest (a.put o.dst v') w') : wpList Tryz.prog ops Q (o :: rest) a w := by
  obtain ⟨i0, hi, hz0, hz1, hz2⟩ := info_parts info_row9
  obtain ⟨vs, how, hr⟩ := hown
  rcases A with _ | ad
  · obtain ⟨rfl, rfl⟩ := hA rfl
    have hn : ds = [] := List.length_eq_zero_iff.1 hR.len
    subst hn
    refine wpList_append_own_none hgd s x 22 ho base 36 i0 1 Tryz.underlying22 hi v cs.length vs hs how hx ?_
    exact h v w (by rw [List.append_nil]; exact ⟨vs, how, hr⟩) (Below.refl _ _)
  · have hvs : vs.length = cs.length := by rw [how.1]; omega
    have hex : ∀ j, ∃ (Aj : Option Addr) (nj cj : Nat), j < m → w.cell? (ad.add j) = some (.slice Aj nj cj) ∧ Rd .i32 w Bd Aj nj (ds.getD j []) := fun j => by
      by_cases hj : j < m
      · obtain ⟨b, o, e, hb, hc⟩ := hR.at_ (by omega)
        cases e
        obtain ⟨Aj, nj, cj, h1, h2⟩ := hc j hj
        exact ⟨Aj, nj, cj, fun _ => ⟨by rw [add_plain]; exact h1, h2⟩⟩
      · exact ⟨none, 0, 0, fun h => absurd h hj⟩
    have hF : ∃ F : Nat → Value, ∀ j, j < m → w.cell? (ad.add j) = some (F j) ∧ (F j).oneCell' = true ∧ ∃ Aj nj cj, F j = .slice Aj nj cj ∧ Rd .i32 w Bd Aj nj (ds.getD j []) := by
      obtain ⟨F, hF⟩ := Classical.axiomOfChoice hex
      obtain ⟨G, hG⟩ := Classical.axiomOfChoice hF
      obtain ⟨K, hK⟩ := Classical.axiomOfChoice hG
      exact ⟨fun j => .slice (F j) (G j) (K j), fun j hj => ⟨(hK j hj).1, rfl, _, _, _, rfl, (hK j hj).2⟩⟩
    obtain ⟨F, hF⟩ := hF
    have hget : ∀ (j : Nat) (u : Value), ((List.range m).map F)[j]? = some u → j < m ∧ u = F j := fun j u hu => by
      by_cases hj : j < m
      · rw [List.getElem?_map, List.getElem?_range hj] at hu
        exact ⟨hj, by simpa using hu.symm⟩
      · rw [List.getElem?_eq_none (by simp; omega)] at hu; cases hu
    refine wpList_append_own w hgd s x 22 ho base 36 i0 (.slice none 0 0) 1 24 Tryz.underlying22 hi hz0 hz1 hz2 rfl (by decide) v cs.length vs hs how ad m c ((List.range m).map F) hx (by simp)
      (fun j u hu => by obtain ⟨hj, rfl⟩ := hget j u hu; exact (hF j hj).1) (fun u hu => by obtain ⟨j, hj, rfl⟩ := List.mem_map.1 hu; exact (hF j (List.mem_range.1 hj)).2.1) (by unfold maxLen; omega) hbytes hbase ?_
    intro v' w' hown' hgrow _
    have hb : Below base w w' := (Below.refl _ _).grown hgrow hbase (fun j hj => (how.lt j hj).1)
    refine h v' w' ⟨vs ++ (List.range m).map F, by rw [List.length_append, hR.len]; exact hown', fun j hj => ?_⟩ hb
    rw [List.length_append, hR.len] at hj
    by_cases hlt : j < cs.length
    · obtain ⟨Aj, nj, cj, h1, h2⟩ := hr j hlt
      refine ⟨Aj, nj, cj, by rw [List.getElem?_append_left (by omega)]; exact h1, ?_⟩
      rw [show (cs ++ ds).getD j [] = cs.getD j [] from by simp [List.getD, List.getElem?_append_left hlt]]
      exact h2.keep fun p hp => hb.cell (by omega)
    · obtain ⟨_, _, Aj, nj, cj, h1, h2⟩ := hF (j - cs.length) (by omega)
      refine ⟨Aj, nj, cj, by rw [List.getElem?_append_right (by omega), hvs, List.getElem?_map, List.getElem?_range (by omega), Option.map_some, h1], ?_⟩
      rw [show (cs ++ ds).getD j [] = ds.getD (j - cs.length) [] from by simp [List.getD, List.getElem?_append_right (Nat.le_of_not_lt hlt)]]
      exact h2.keep fun p hp => hb.cell (by omega)
end Go.Proofs.YtkckodpfhlpkgaaGreat
namespace Go.Proofs.YtkckodpfhlpkgaaGreat
set_option maxRecDepth 100000
open Go.RowKit LitM TrailM EngM CnfP

set_option maxHeartbeats 6400000 in
theorem clauses_any {B : Nat} (A : Option Addr) (n c : Nat) (log : List (Bool × List Int)) (w : World) (h : RdS w B A n log) (hB : B ≤ w.heap.size) (hn : n ≤ 100000) :
    Calls Tryz.prog 11 #[.slice A n c] w fun e w' => ∃ Ar cr, e = .returned (.slice Ar n cr) ∧ RdG w' B Ar n (log.map (·.2)) ∧ (Ar = none → n = 0 ∧ cr = 0) ∧ Below w.heap.size w w' := by
  have HL := Lib.hid h
  have HLL := Lib.hid h.len
  have HB := Lib.hid hB
  have HO0 := Lib.hid (OwnF.zero w B w.heap.size (Nat.le_refl _))
  clear h hB
  go_enter Tryz.func11, Tryz.ntmps11
  go_wp2_with fail
  go_loopw [3, 9] (fun u v wr => ∃ j : Nat, v = .int .i64 (j : Int) ∧ j ≤ n ∧ Hid (OwnF wr B w.heap.size u ((log.take j).map (·.2))) ∧ Hid (Below w.heap.size w wr)) (fun _ v _ => n - (intOf v).toNat)
  case atStart => exact ⟨0, rfl, by omega, HO0, (Below.refl _ _).alloc (Nat.le_refl _) _⟩
  case round =>
    clear HO0
    obtain ⟨j, rfl, hj, hown, hbr⟩ := hrel
    by_cases hlt : j < n
    · have tk : decide ((j : Int) < (n : Int)) = true := decide_eq_true (by omega)
      have tk2 : decide (j < n) = true := decide_eq_true hlt
      have hjl : j < log.length := by rw [HLL.out]; exact hlt
      obtain ⟨b, o, hA, hb, hc⟩ := HL.out.at_ (by omega)
      subst hA
      obtain ⟨Aj, nj, cj, c0, c1, hrd⟩ := hc j hlt
      have hbs : b < w.heap.size := by have := HB.out; omega
      have d0 : wr.cell? ⟨b, o + j * 2, none⟩ = some (.bool (log.getD j (false, [])).1) := (hbr.out.cell (p := ⟨b, o + j * 2, none⟩) hbs).trans c0
      have d1 : wr.cell? ⟨b, o + j * 2 + 1, none⟩ = some (.slice Aj nj cj) := (hbr.out.cell (p := ⟨b, o + j * 2 + 1, none⟩) hbs).trans c1
      obtain ⟨g, hgd⟩ : ∃ g, g = (log.getD j (false, [])).1 := ⟨_, rfl⟩
      rw [← hgd] at d0
      obtain ⟨W2, hW2⟩ : ∃ W2, W2 = wr.alloc (.cells #[.bool g, .slice Aj nj cj] 41) := ⟨_, rfl⟩
      have hbw2 : Below wr.heap.size wr W2 := by rw [hW2]; exact (Below.refl _ _).alloc (Nat.le_refl _) _
      have hbW2 : Below w.heap.size w W2 := hbr.out.trans (hbw2.mono hbr.out.size)
      have z1 : W2.cell? ⟨wr.heap.size, 1, none⟩ = some (.slice Aj nj cj) := by rw [hW2, Lib.cell_of_heap (blk_new wr _)]; rfl
      have hbW3 : Below W2.heap.size W2 (W2.alloc (.cells #[.slice Aj nj cj] 36)) := (Below.refl _ _).alloc (Nat.le_refl _) _
      have HOwn : Hid (OwnF (W2.alloc (.cells #[.slice Aj nj cj] 36)) B w.heap.size u3 ((log.take j).map (·.2))) :=
        (hown.out.below (Nat.le_trans HB.out hbr.out.size) hbw2).below (Nat.le_trans HB.out hbW2.size) hbW3
      have hbw3 : Below w.heap.size w (W2.alloc (.cells #[.slice Aj nj cj] 36)) := hbW2.trans (hbW3.mono hbW2.size)
      have HSrc : Hid (RdG (W2.alloc (.cells #[.slice Aj nj cj] 36)) B (some ⟨W2.heap.size, 0, none⟩) 1 [(log.getD j (false, [])).2]) := ⟨rfl, fun _ => ⟨W2.heap.size, 0, rfl, by simp, fun i hi => by
        obtain rfl : i = 0 := by omega
        exact ⟨Aj, nj, cj, by rw [Lib.cell_of_heap (blk_new W2 _)]; rfl, hrd.keep fun p hp => hbw3.cell (by have := HB.out; omega)⟩⟩⟩
      have HLn : Hid (((log.take j).map (·.2)).length = j) := by unfold Hid; rw [List.length_map, List.length_take]; omega
      have HSn : Hid ((log.take (j + 1)).map (·.2) = (log.take j).map (·.2) ++ [(log.getD j (false, [])).2]) := by
        unfold Hid
        rw [List.take_succ_eq_append_getElem hjl, List.map_append, List.getD, List.getElem?_eq_getElem hjl]
        rfl
      have HSz : Hid (w.heap.size ≤ (W2.alloc (.cells #[.slice Aj nj cj] 36)).heap.size) := hbw3.size
      have HB3 := Lib.hid hbw3
      have HW2 := Lib.hid hW2
      have HBr := Lib.hid hbr
      clear hrd hc c0 c1 hbW2 hbw2 hbW3 hbw3 hown hbr hgd hW2
      go_upto_region 5 with (fail)
      rw [← HW2.out]
      go_wp2_with (at_builtin; refine wpList_append_rows rfl _ _ rfl B w.heap.size _ _ rfl HOwn.out HB.out (some ⟨W2.heap.size, 0, none⟩) 1 1 _ rfl (fun e => by cases e) HSrc.out (by rw [HLn.out]; omega) HSz.out ?_)
      intro v' w5 hown5 hb5
      have HN : Hid (OwnF w5 B w.heap.size v' ((log.take (j + 1)).map (·.2))) := by unfold Hid; rw [HSn.out]; simpa [List.map_take, List.getD, List.getElem?_eq_getElem hjl] using hown5
      have HB5 : Hid (Below w.heap.size w w5) := HB3.out.trans hb5
      clear hown5 hb5 HOwn HSrc HSn HSz HB3
      go_wp2_with fail
      go_roundw
      case rel => exact ⟨j + 1, by go_num, by omega, HN, HB5⟩
      case measure => simp [intOf]; omega
    · have tk : decide ((j : Int) < (n : Int)) = false := decide_eq_false (by omega)
      have tk2 : decide (j < n) = false := decide_eq_false hlt
      obtain rfl : j = n := by omega
      have hown := hown.out
      rw [List.take_of_length_le (by rw [HLL.out]; exact Nat.le_refl _)] at hown
      obtain ⟨Ar, cr, hu, hg, hnil⟩ := hown.form
      have hlm : (log.map (·.2)).length = j := by rw [List.length_map]; exact HLL.out
      rw [hlm] at hu hg hnil
      subst hu
      have HFin : Hid (RdG wr B Ar j (log.map (·.2)) ∧ (Ar = none → j = 0 ∧ cr = 0) ∧ Below w.heap.size w wr) := ⟨hg, hnil, hbr.out⟩
      clear hown hg hnil hlm hbr
      go_wp2_with fail
      go_ret
      exact ⟨_, _, rfl, HFin.out⟩
/-- Are a formula and a log too great to be looked at? -/
def greatB (v : Int) (cs : List (List Int)) (log : List (Bool × List Int)) : Bool :=
  (decide (30 < v) && decide (v < 262144)) || decide (60 < cs.length) || decide (40 < log.length) || (cs ++ log.map (·.2)).any fun c => decide (20 < c.length)
section
variable {w : World} {v : Int} {A Al : Option Addr} {n c N cn : Nat} {cs : List (List Int)} {log : List (Bool × List Int)}
set_option maxHeartbeats 6400000 in
theorem great_any (h : RdF w w.heap.size A n cs) (hA : A = none → n = 0 ∧ c = 0) (hn : n ≤ 9223372036854775807) (hl : RdS w w.heap.size Al N log) (hN : N ≤ 9223372036854775807) :
    Calls Tryz.prog 6 #[.agg #[.int .i64 v, .slice A n c], .slice Al N cn] w fun e w' => e = .returned (.bool (greatB v cs log)) ∧ Below w.heap.size w w' := by
  obtain ⟨W0, hW0⟩ : ∃ W0, W0 = w.alloc (.cells #[.int .i64 v, .slice A n c] 24) := ⟨_, rfl⟩
  have hb0 : Below w.heap.size w W0 := by rw [hW0]; exact (Below.refl _ _).alloc (Nat.le_refl _) _
  have x0 : W0.cell? ⟨w.heap.size, 0, none⟩ = some (.int .i64 v) := by rw [hW0, Lib.cell_of_heap (blk_new w _)]; rfl
  have x1 : W0.cell? ⟨w.heap.size, 1, none⟩ = some (.slice A n c) := by rw [hW0, Lib.cell_of_heap (blk_new w _)]; rfl
  have hlen := h.len
  have hllen := hl.len
  have HA := Lib.hid hA
  have HF := Lib.hid h
  have HL := Lib.hid hl
  have HCL := Lib.hid hlen
  have HLL := Lib.hid hllen
  have HB0 := Lib.hid hb0
  have HW0 := Lib.hid hW0
  clear h hl hA hlen hllen hb0 hW0
  go_enter Tryz.func6, Tryz.ntmps6
  go_upto_region 1 with (fail)
  rw [← HW0.out]
  by_cases g1 : 30 < v ∧ v < 262144
  · have t1 : decide (30 < v) = true := decide_eq_true g1.1
    have t2 : decide (v < 262144) = true := decide_eq_true g1.2
    have HG : Hid (greatB v cs log = true) := by unfold Hid greatB; rw [t1, t2]; rfl
    clear g1
    go_wp2_with fail
    go_ret
    exact ⟨by rw [HG.out]; rfl, HB0.out⟩
  have hv : decide (30 < v) = false ∨ (decide (30 < v) = true ∧ decide (v < 262144) = false) := by
    by_cases h : 30 < v
    · exact .inr ⟨decide_eq_true h, decide_eq_false fun h2 => g1 ⟨h, h2⟩⟩
    · exact .inl (decide_eq_false h)
  have HV1 : Hid ((decide (30 < v) && decide (v < 262144)) = false) := by
    unfold Hid
    rcases hv with e | ⟨e, e2⟩
    · rw [e]; rfl
    · rw [e2]; simp
  clear g1
  by_cases g2 : 60 < n
  · have t3 : decide (60 < n) = true := decide_eq_true g2
    have t3' : decide ((60 : Int) < (n : Int)) = true := decide_eq_true (by omega)
    have HG : Hid (greatB v cs log = true) := by unfold Hid greatB; rw [HV1.out, HCL.out, t3]; rfl
    clear g2
    rcases hv with t1 | ⟨t1, t2⟩
    all_goals
      go_wp2_with fail
      go_ret
      exact ⟨by rw [HG.out]; rfl, HB0.out⟩
  have t3 : decide (60 < n) = false := decide_eq_false g2
  have t3' : decide ((60 : Int) < (n : Int)) = false := decide_eq_false (by omega)
  by_cases g3 : 40 < N
  · have t4 : decide (40 < N) = true := decide_eq_true g3
    have t4' : decide ((40 : Int) < (N : Int)) = true := decide_eq_true (by omega)
    have HG : Hid (greatB v cs log = true) := by unfold Hid greatB; rw [HV1.out, HCL.out, t3, HLL.out, t4]; rfl
    clear g3 g2
    rcases hv with t1 | ⟨t1, t2⟩
    all_goals
      go_wp2_with fail
      go_ret
      exact ⟨by rw [HG.out]; rfl, HB0.out⟩
  have t4 : decide (40 < N) = false := decide_eq_false g3
  have t4' : decide ((40 : Int) < (N : Int)) = false := decide_eq_false (by omega)
  have HGt : Hid (greatB v cs log = (cs ++ log.map (·.2)).any fun c => decide (20 < c.length)) := by unfold Hid greatB; rw [HV1.out, HCL.out, t3, HLL.out, t4]; rfl
  have HN6 : Hid (n ≤ 60) := Nat.not_lt.1 g2
  have HN4 : Hid (N ≤ 40) := Nat.not_lt.1 g3
  clear g2 g3
  have hb1 : Below W0.heap.size W0 (W0.alloc (.cells #[] 36)) := (Below.refl _ _).alloc (Nat.le_refl _) _
  have HB1 : Hid (Below w.heap.size w (W0.alloc (.cells #[] 36))) := HB0.out.trans (hb1.mono HB0.out.size)
  have HO0 : Hid (OwnF (W0.alloc (.cells #[] 36)) w.heap.size w.heap.size (.slice (some ⟨W0.heap.size, 0, none⟩) 0 0) []) := OwnF.zero W0 _ _ HB0.out.size
  have HS1 : Hid (RdG (W0.alloc (.cells #[] 36)) w.heap.size A n cs) := (HF.out.gg (Nat.le_refl _)).below (Nat.le_refl _) HB1.out
  have hlt0 : w.heap.size < W0.heap.size := by rw [HW0.out]; simp
  have x2 : (W0.alloc (.cells #[] 36)).cell? ⟨w.heap.size, 1, none⟩ = some (.slice A n c) := (hb1.cell (p := ⟨w.heap.size, 1, none⟩) hlt0).trans x1
  clear hb1
  rcases hv with t1 | ⟨t1, t2⟩
  all_goals
    go_wp2_with (at_builtin; refine wpList_append_rows rfl _ _ rfl w.heap.size w.heap.size _ [] rfl HO0.out (Nat.le_refl _) A n c cs rfl HA.out HS1.out (by have := HN6.out; simp; omega) HB1.out.size ?_)
    intro v1 w2 hown hb2
    have HO1 : Hid (OwnF w2 w.heap.size w.heap.size v1 cs) := by unfold Hid; simpa using hown
    have HB2 : Hid (Below w.heap.size w w2) := HB1.out.trans hb2
    have HC := Lib.hid (clauses_any (B := w.heap.size) Al N cn log w2 (HL.out.keep fun p hp => HB2.out.cell hp) HB2.out.size (by have := HN4.out; omega))
    clear hown hb2 HO0 HS1 HB1
    go_wp2_with fail
    refine HC.out.mono ?_
    rintro e w3 ⟨Ar, cr, rfl, hg, hnil, hb3⟩
    have HO2 : Hid (OwnF w3 w.heap.size w.heap.size v1 cs) := HO1.out.below HB2.out.size hb3
    have HB3 : Hid (Below w.heap.size w w3) := HB2.out.trans (hb3.mono HB2.out.size)
    have HGr := Lib.hid hg
    have HNil := Lib.hid hnil
    clear hg hnil hb3 HC HO1 HB2
    go_wp2_with (at_builtin; refine wpList_append_rows rfl _ _ rfl w.heap.size w.heap.size _ cs rfl HO2.out (Nat.le_refl _) Ar N cr _ rfl HNil.out HGr.out (by rw [HCL.out]; have := HN6.out; have := HN4.out; omega) HB3.out.size ?_)
    intro v2 w4 hown hb4
    have HB4 : Hid (Below w.heap.size w w4) := HB3.out.trans hb4
    obtain ⟨Az, cz, rfl, hz, _⟩ := hown.form
    have HZ := Lib.hid hz
    have HM : Hid ((cs ++ log.map (·.2)).length ≤ 100) := by unfold Hid; rw [List.length_append, List.length_map, HCL.out, HLL.out]; have := HN6.out; have := HN4.out; omega
    obtain ⟨zs, hzs⟩ : ∃ zs, zs = cs ++ log.map (·.2) := ⟨_, rfl⟩
    rw [← hzs] at HZ HM HGt ⊢
    clear hown hb4 hz hzs HO2 HB3 HGr HNil x0 x1 x2
    obtain ⟨M, hM⟩ : ∃ M, M = zs.length := ⟨_, rfl⟩
    rw [← hM] at HZ HM ⊢
    have HMl := Lib.hid hM
    clear hM
    have hM1 := HM.out
    have HA0 : Hid (∀ i, i < 0 → (zs.getD i []).length ≤ 20) := fun i hi => by omega
    go_wp2_with fail
    go_loopw [34] (fun u wr => ∃ j : Nat, u = .int .i64 (j : Int) ∧ j ≤ M ∧ wr = w4 ∧ Hid (∀ i, i < j → (zs.getD i []).length ≤ 20)) (fun u _ => M - (intOf u).toNat)
    case atStart => exact ⟨0, rfl, by omega, rfl, HA0⟩
    case round =>
      clear HA0
      obtain ⟨j, rfl, hj, rfl, hall⟩ := hrel
      by_cases hlt : j < M
      · have tk : decide ((j : Int) < (M : Int)) = true := decide_eq_true (by omega)
        have tk2 : decide (j < M) = true := decide_eq_true hlt
        obtain ⟨b, o, hA, hb, hc⟩ := HZ.out.at_ (by omega)
        subst hA
        obtain ⟨Aj, nj, cj, c0, hrd⟩ := hc j hlt
        have HNj := Lib.hid hrd.len
        clear hrd hc
        have hjl : j < zs.length := by rw [← HMl.out]; exact hlt
        by_cases hbig : 20 < nj
        · have tb : decide (20 < nj) = true := decide_eq_true hbig
          have tb' : decide ((20 : Int) < (nj : Int)) = true := decide_eq_true (by omega)
          have HG : Hid (greatB v cs log = true) := by
            unfold Hid
            rw [HGt.out, List.any_eq_true]
            refine ⟨zs.getD j [], ?_, by rw [HNj.out]; exact tb⟩
            rw [List.getD, List.getElem?_eq_getElem hjl]
            exact List.getElem_mem hjl
          clear hall hbig
          go_wp2_with fail
          go_ret
          exact ⟨by rw [HG.out]; rfl, HB4.out⟩
        · have tb : decide (20 < nj) = false := decide_eq_false hbig
          have tb' : decide ((20 : Int) < (nj : Int)) = false := decide_eq_false (by omega)
          have HN : Hid (∀ i, i < j + 1 → (zs.getD i []).length ≤ 20) := fun i hi => by
            by_cases e : i = j
            · rw [e, HNj.out]; omega
            · exact hall.out i (by omega)
          clear hall hbig
          go_wp2_with fail
          go_roundw
          case rel => exact ⟨j + 1, by go_num, by omega, trivial, HN⟩
          case measure => simp [intOf]; omega
      · have tk : decide ((j : Int) < (M : Int)) = false := decide_eq_false (by omega)
        have tk2 : decide (j < M) = false := decide_eq_false hlt
        have HG : Hid (greatB v cs log = false) := by
          unfold Hid
          rw [HGt.out, List.any_eq_false]
          intro l hl
          obtain ⟨i, hi, rfl⟩ := List.getElem_of_mem hl
          have := hall.out i (by rw [← HMl.out] at hi; omega)
          rw [List.getD, List.getElem?_eq_getElem hi] at this
          simpa using this
        clear hall
        go_wp2_with fail
        go_ret
        exact ⟨by rw [HG.out]; rfl, HB4.out⟩
end
end Go.Proofs.YtkckodpfhlpkgaaGreat
