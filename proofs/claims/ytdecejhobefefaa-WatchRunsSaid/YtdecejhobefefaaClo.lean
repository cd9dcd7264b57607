/- Values with one more, and what a clause leaves: the contracts of lariatref05.With and left. The contract of lariatref05.Close: what follows of clauses, from some values on. -/
import Derived.Test.YtdecejhobefefaaVal
import Derived.Test.YtdecejhobefefaaLitD
namespace Go.Proofs.Ytdecejhobefefaa
open Go.RowKit LitM TrailM EngM

set_option maxHeartbeats 1600000 in
theorem of_c {w : World} {g n c : Nat} {V : Nat → Int} (h : RowV 3 1 w g n c (intV V)) (hb : ∀ k, -1 ≤ V k ∧ V k ≤ 1) (l : Int) (h1 : LitM.one l = true) (hn : varZ l < (n : Int)) (hnn : n ≤ 1000) :
    Calls Try.prog 65 #[.slice (some ⟨g, 0, none⟩) n c, .int .i32 l] w fun e w' => e = .returned (.int .i64 (valV V l)) ∧ w = w' := by
  have ho := (one_iff l).1 h1
  unfold valV
  by_cases hl : l < 0
  · have tl : decide (l < 0) = true := decide_eq_true hl
    rw [if_pos hl]
    obtain ⟨k, hk⟩ : ∃ k : Nat, l = -(k : Int) := ⟨(-l).toNat, by omega⟩
    have hk2 : (-l).toNat = k := by omega
    have hkn : k < n := by
      rw [varZ_neg (by omega) (by omega)] at hn; omega
    rw [hk2]
    have hc : w.cell? ⟨g, k, none⟩ = some (.int .i64 (V k)) := h.cell (show k < n * 1 by omega)
    have hb1 := hb k
    generalize V k = z at *
    clear h
    subst hk
    have tk : decide (0 < k) = true := decide_eq_true (by omega)
    go_enter Try.func65, Try.ntmps65
    go_wp2_with fail
    go_ret
    exact ⟨rfl, rfl⟩
  · have tl : decide (l < 0) = false := decide_eq_false hl
    rw [if_neg hl]
    obtain ⟨k, rfl⟩ : ∃ k : Nat, l = (k : Int) := ⟨l.toNat, by omega⟩
    rw [Int.toNat_natCast]
    have hkn : k < n := by
      rw [varZ_pos (by omega) (by omega)] at hn; omega
    have hc : w.cell? ⟨g, k, none⟩ = some (.int .i64 (V k)) := h.cell (show k < n * 1 by omega)
    have hb1 := hb k
    generalize V k = z at *
    clear h
    go_enter Try.func65, Try.ntmps65
    go_wp2_with fail
    go_ret
    exact ⟨rfl, rfl⟩
/-- With l true. -/
def setV (V : Nat → Int) (l : Int) : Nat → Int := fun i => if l < 0 then (if i = (-l).toNat then -1 else V i) else (if i = l.toNat then 1 else V i)
theorem intV_one (V : Nat → Int) (n : Nat) : ∀ u ∈ cellsV (intV V) n, u.oneCell' = true := fun u hu => by
  unfold cellsV at hu
  obtain ⟨k, _, rfl⟩ := List.mem_map.1 hu
  rfl
set_option maxHeartbeats 1600000 in
theorem with_any {w : World} {g n c : Nat} {V : Nat → Int} (h : RowV 3 1 w g n c (intV V)) (l : Int) (h1 : LitM.one l = true) (hn : varZ l < (n : Int)) (hnn : n ≤ 1000) :
    Calls Try.prog 66 #[.slice (some ⟨g, 0, none⟩) n c, .int .i32 l] w fun e w' => ∃ g' c', e = .returned (.slice (some ⟨g', 0, none⟩) n c') ∧ RowV 3 1 w' g' n c' (intV (setV V l)) ∧ w.heap.size ≤ g' ∧ Below w.heap.size w w' := by
  have ho := (one_iff l).1 h1
  have hvn : 1 ≤ varZ l := varZ_ge h1
  have HR0 : Hid (SlV 3 1 (w.alloc (.cells #[] 3)) (some ⟨w.heap.size, 0, none⟩) 0 0 (fun _ => .int .i64 0)) := .inr ⟨w.heap.size, rfl, RowV.made (by omega) rfl (fun j hj => by omega)⟩
  have HNW : Hid (∀ j u, (cellsV (intV V) n)[j]? = some u → (w.alloc (.cells #[] 3)).cell? ((⟨g, 0, none⟩ : Addr).add j) = some u) := fun j u hu => by
    have hj : j < n := by
      have := (List.getElem?_eq_some_iff.1 hu).1
      simpa [cellsV] using this
    have h2 := (h.alloc (.cells #[] 3)).cell (show j < n * 1 by omega)
    have h3 : (cellsV (intV V) n)[j]? = some (intV V j) := cellsV_get (intV V) hj
    rw [h3] at hu
    injection hu with hu
    rw [← hu, ← h2]
    show _ = _
    congr 1
    simp [Addr.add]
    omega
  have HLN : Hid ((cellsV (intV V) n).length = n * 1) := by unfold Hid; simp [cellsV_length]
  have HONE := Lib.hid (intV_one V n)
  have hn0 : 0 < n := by omega
  clear h
  by_cases hl : l < 0
  · have tl : decide (l < 0) = true := decide_eq_true hl
    obtain ⟨k, hk⟩ : ∃ k : Nat, l = -(k : Int) := ⟨(-l).toNat, by omega⟩
    have hkn : k < n := by rw [varZ_neg (by omega) (by omega)] at hn; omega
    have HSV : Hid (∀ i, intV (setV V l) i = updV (intV V) k (.int .i64 (-1)) i) := fun i => by
      unfold intV setV updV
      rw [if_pos hl, show (-l).toNat = k by omega]
      by_cases e : i = k
      · subst e; simp
      · simp [e]
    subst hk
    have tk : decide (0 < k) = true := decide_eq_true (by omega)
    go_enter Try.func66, Try.ntmps66
    go_wp2_with (at_builtin; refine wpList_append_sl _ rfl _ _ 72 3 rfl Try.underlying72 info_tint rfl (by decide) (by decide) (some ⟨w.heap.size, 0, none⟩) 0 0 _ rfl HR0.out (by omega) ⟨g, 0, none⟩ n c _ rfl HLN.out HNW.out HONE.out (by omega) hn0 ?_)
    intro g' c7 w7 hr7 hg7 hk7
    have hgs : w.heap.size ≤ g' := by
      rcases hg7 with e | e
      · rw [onB_some] at e
        have e : g' = w.heap.size := e
        omega
      · omega
    have hr8 : RowV 3 1 w7 g' n c7 (intV V) := hr7.congr fun j hj => by
      unfold appV
      rw [if_neg (by omega), Nat.sub_zero, List.getD, cellsV_get (intV V) (show j < n by omega)]; rfl
    have hk8 := hk7 (fun i => onB (some ⟨w.heap.size, 0, none⟩) i) (fun i hi => hi)
    have HB8 : Hid (Below w.heap.size w w7) := by
      have h1 : Below w.heap.size w (w.alloc (.cells #[] 3)) := (Below.refl _ _).alloc (Nat.le_refl _) _
      exact h1.trans (hk8.below h1.size (fun i hi => by
        rw [onB_some] at hi
        have hi : i = w.heap.size := hi
        omega))
    have HR9 : Hid (RowV 3 1 (w7.setCell ⟨g', k, none⟩ (.int .i64 (-1))) g' n c7 (intV (setV V (-(k : Int))))) := (hr8.set (show k < n * 1 by omega) (.int .i64 (-1))).congr fun j _ => HSV.out j
    have HB9 : Hid (Below w.heap.size w (w7.setCell ⟨g', k, none⟩ (.int .i64 (-1)))) := HB8.out.trans ((Kf.refl (fun i => i = g') w7 |>.set (p := ⟨g', k, none⟩) (.inl rfl) _).below HB8.out.size (fun i hi => by rw [hi]; exact hgs))
    have HGS := Lib.hid hgs
    have hck := hr8.cell (show k < n * 1 by omega)
    have hfk := hr8.free k
    have hbd := hr8.bd
    obtain ⟨hbd1, hbd2⟩ := hbd
    clear hr7 hg7 hk7 hr8 hk8 hgs
    go_wp2_with fail
    go_ret
    exact ⟨g', c7, rfl, HR9.out, HGS.out, HB9.out⟩
  · have tl : decide (l < 0) = false := decide_eq_false hl
    obtain ⟨k, hk⟩ : ∃ k : Nat, l = (k : Int) := ⟨l.toNat, by omega⟩
    have hkn : k < n := by rw [varZ_pos (by omega) (by omega)] at hn; omega
    have HSV : Hid (∀ i, intV (setV V l) i = updV (intV V) k (.int .i64 1) i) := fun i => by
      unfold intV setV updV
      rw [if_neg hl, show l.toNat = k by omega]
      by_cases e : i = k
      · subst e; simp
      · simp [e]
    subst hk
    go_enter Try.func66, Try.ntmps66
    go_wp2_with (at_builtin; refine wpList_append_sl _ rfl _ _ 72 3 rfl Try.underlying72 info_tint rfl (by decide) (by decide) (some ⟨w.heap.size, 0, none⟩) 0 0 _ rfl HR0.out (by omega) ⟨g, 0, none⟩ n c _ rfl HLN.out HNW.out HONE.out (by omega) hn0 ?_)
    intro g' c7 w7 hr7 hg7 hk7
    have hgs : w.heap.size ≤ g' := by
      rcases hg7 with e | e
      · rw [onB_some] at e
        have e : g' = w.heap.size := e
        omega
      · omega
    have hr8 : RowV 3 1 w7 g' n c7 (intV V) := hr7.congr fun j hj => by
      unfold appV
      rw [if_neg (by omega), Nat.sub_zero, List.getD, cellsV_get (intV V) (show j < n by omega)]; rfl
    have hk8 := hk7 (fun i => onB (some ⟨w.heap.size, 0, none⟩) i) (fun i hi => hi)
    have HB8 : Hid (Below w.heap.size w w7) := by
      have h1 : Below w.heap.size w (w.alloc (.cells #[] 3)) := (Below.refl _ _).alloc (Nat.le_refl _) _
      exact h1.trans (hk8.below h1.size (fun i hi => by
        rw [onB_some] at hi
        have hi : i = w.heap.size := hi
        omega))
    have HR9 : Hid (RowV 3 1 (w7.setCell ⟨g', k, none⟩ (.int .i64 1)) g' n c7 (intV (setV V (k : Int)))) := (hr8.set (show k < n * 1 by omega) (.int .i64 1)).congr fun j _ => HSV.out j
    have HB9 : Hid (Below w.heap.size w (w7.setCell ⟨g', k, none⟩ (.int .i64 1))) := HB8.out.trans ((Kf.refl (fun i => i = g') w7 |>.set (p := ⟨g', k, none⟩) (.inl rfl) _).below HB8.out.size (fun i hi => by rw [hi]; exact hgs))
    have HGS := Lib.hid hgs
    have hck := hr8.cell (show k < n * 1 by omega)
    have hfk := hr8.free k
    have hbd := hr8.bd
    obtain ⟨hbd1, hbd2⟩ := hbd
    clear hr7 hg7 hk7 hr8 hk8 hgs
    go_wp2_with fail
    go_ret
    exact ⟨g', c7, rfl, HR9.out, HGS.out, HB9.out⟩
/-- Of some literals none is true, and U are those without a value. -/
structure LefZ (V : Nat → Int) (xs U : List Int) : Prop where
  no : ∀ y ∈ xs, valV V y ≠ 1
  nd : U.Nodup
  un : ∀ y, y ∈ U ↔ y ∈ xs ∧ valV V y = 0
theorem LefZ.nil (V : Nat → Int) : LefZ V [] [] := ⟨by simp, List.nodup_nil, by simp⟩
theorem LefZ.skip {V : Nat → Int} {xs U : List Int} {y : Int} (h : LefZ V xs U) (h1 : valV V y ≠ 1) (h0 : valV V y ≠ 0 ∨ y ∈ xs) : LefZ V (xs ++ [y]) U := by
  refine ⟨fun z hz => ?_, h.nd, fun z => ?_⟩
  · rcases List.mem_append.1 hz with e | e
    · exact h.no z e
    · rw [List.mem_singleton.1 e]; exact h1
  · rw [h.un, List.mem_append]
    constructor
    · exact fun ⟨a, b⟩ => ⟨.inl a, b⟩
    · rintro ⟨a | a, b⟩
      · exact ⟨a, b⟩
      · rw [List.mem_singleton] at a
        subst a
        rcases h0 with h0 | h0
        · exact absurd b h0
        · exact ⟨h0, b⟩
theorem LefZ.more {V : Nat → Int} {xs U : List Int} {y : Int} (h : LefZ V xs U) (h0 : valV V y = 0) (hn : y ∉ xs) : LefZ V (xs ++ [y]) (U ++ [y]) := by
  refine ⟨fun z hz => ?_, ?_, fun z => ?_⟩
  · rcases List.mem_append.1 hz with e | e
    · exact h.no z e
    · rw [List.mem_singleton.1 e]; omega
  · rw [List.nodup_append]
    refine ⟨h.nd, by simp, fun a ha b hb e => ?_⟩
    rw [List.mem_singleton] at hb
    subst hb; subst e
    exact hn ((h.un _).1 ha).1
  · rw [List.mem_append, List.mem_append, h.un, List.mem_singleton]
    constructor
    · rintro (⟨a, b⟩ | rfl)
      · exact ⟨.inl a, b⟩
      · exact ⟨.inr rfl, h0⟩
    · rintro ⟨a | a, b⟩
      · exact .inl ⟨a, b⟩
      · exact .inr a
theorem LefZ.len {V : Nat → Int} {xs U : List Int} (h : LefZ V xs U) : U.length ≤ xs.length := List.Nodup.length_le_of_subset h.nd fun y hy => ((h.un y).1 hy).1
def lst (U : List Int) : Int := U.getLastD 0
theorem lst_mem {U : List Int} (h : U ≠ []) : lst U ∈ U := by
  unfold lst
  rw [List.getLastD_eq_getLast?, List.getLast?_eq_some_getLast h]
  exact List.getLast_mem h
/-- What left leaves. -/
def LefTo (V : Nat → Int) (xs : List Int) (w : World) (e : Ending) (w' : World) : Prop :=
  w = w' ∧ (((∃ y ∈ xs, valV V y = 1) ∧ e = .returned (.tuple #[.bool true, .int .i64 0, .int .i32 0])) ∨
    ∃ U, LefZ V xs U ∧ e = .returned (.tuple #[.bool false, .int .i64 (U.length : Int), .int .i32 (lst U)]))
set_option maxHeartbeats 3200000 in
set_option maxRecDepth 100000 in
theorem left_any {w : World} {g n c : Nat} {V : Nat → Int} (h : RowV 3 1 w g n c (intV V)) (hb : ∀ k, -1 ≤ V k ∧ V k ≤ 1) (hnn : n ≤ 1000) {A : Option Addr} {m c2 B : Nat} {xs : List Int} (hs : Rd .i32 w B A m xs) (hx : ∀ y ∈ xs, LitM.one y = true ∧ varZ y < (n : Int)) (hm : m ≤ c2) (hc2 : c2 ≤ 9223372036854775807) (hm2 : m ≤ 100000) :
    Calls Try.prog 92 #[.slice (some ⟨g, 0, none⟩) n c, .slice A m c2] w (LefTo V xs w) := by
  have HO : Hid (∀ l, LitM.one l = true → varZ l < (n : Int) → Calls Try.prog 65 #[.slice (some ⟨g, 0, none⟩) n c, .int .i32 l] w fun e w' => e = .returned (.int .i64 (valV V l)) ∧ w = w') := fun l h1 h2 => of_c h hb l h1 h2 hnn
  have HX := Lib.hid hx
  have HL := Lib.hid hs.len
  have HS := Lib.hid hs
  clear h hb hs hx
  obtain ⟨w0, hw0⟩ : ∃ w0 : World, w0 = w := ⟨_, rfl⟩
  rw [← hw0] at HO HS ⊢
  clear hw0
  go_enter Try.func92, Try.ntmps92
  go_wp2_with fail
  go_loopw [7, 8, 13] (fun mv lv v wr => ∃ (j : Nat) (U : List Int), mv = .int .i64 (U.length : Int) ∧ lv = .int .i32 (lst U) ∧ v = .int .i64 (j : Int) ∧ j ≤ m ∧ U.length ≤ j ∧ wr = w0 ∧ Hid (LefZ V (xs.take j) U)) (fun _ _ v _ => m - (intOf v).toNat)
  case atStart => exact ⟨0, [], rfl, rfl, rfl, by omega, by simp, rfl, Lib.hid (LefZ.nil V)⟩
  case round =>
    obtain ⟨j, U, rfl, rfl, rfl, hj, hul, rfl, hU⟩ := hrel
    by_cases hlt : j < m
    · have tj : decide (j < m) = true := decide_eq_true hlt
      have tj2 : decide ((j : Int) < (m : Int)) = true := decide_eq_true (by omega)
      obtain ⟨gx, o, rfl, hgb, hcm⟩ := HS.out.get hlt
      have hxj : xs[j]? = some (xs.getD j 0) := by
        have := HL.out
        rw [List.getD, List.getElem?_eq_getElem (by omega)]; rfl
      obtain ⟨x1, x2⟩ := HX.out _ (List.mem_of_getElem? hxj)
      have HOf := Lib.hid (HO.out _ x1 x2)
      have HTK : Hid (xs.take (j + 1) = xs.take j ++ [xs.getD j 0]) := by unfold Hid; rw [List.take_add_one, hxj]; rfl
      have HIN : Hid (valV V (xs.getD j 0) = 1 → ∃ y ∈ xs, valV V y = 1) := fun e => ⟨_, List.mem_of_getElem? hxj, e⟩
      have HRT : Hid (Rd .i32 wr B (some ⟨gx, o, none⟩) j (xs.take j)) := by
        refine ⟨by have := HL.out; simp; omega, fun _ => ?_⟩
        obtain ⟨b', o', e, hb', hc'⟩ := HS.out.at_ (by omega)
        injection e with e
        injection e with e1 e2
        subst e1; subst e2
        refine ⟨gx, o, rfl, hgb, fun i hi => ?_⟩
        rw [hc' i (by omega), List.getD, List.getD, List.getElem?_take_of_lt hi]
      have HH := Lib.hid (rhas_any (some ⟨gx, o, none⟩) j c2 (xs.take j) (xs.getD j 0) wr B HRT.out (by omega))
      have hle : (j : Int) ≤ (c2 : Int) := by omega
      clear x1 x2 hxj
      generalize xs.getD j 0 = l at *
      have HV : Hid (valV V l = valV V l) := rfl
      by_cases hz : valV V l = 1
      · have tz : (valV V l == 1) = true := by simpa using hz
        have HR := Lib.hid (HIN.out hz)
        rw [hz] at HOf
        clear HIN HV hz tz HH HRT HTK
        go_wp2_with fail
        refine HOf.out.mono ?_
        rintro e w' ⟨rfl, rfl⟩
        go_wp2_with fail
        go_ret3
        exact ⟨rfl, .inl ⟨HR.out, rfl⟩⟩
      have tz : (valV V l == 1) = false := by simpa using hz
      by_cases h0 : valV V l = 0
      · have t0 : (valV V l == 0) = true := by simpa using h0
        by_cases hm' : l ∈ xs.take j
        · have HN := Lib.hid (hU.out.skip hz (.inr hm'))
          rw [← HTK.out] at HN
          rw [show hasB (xs.take j) l = true from (hasB_iff _ _).2 hm'] at HH
          clear HIN HRT HTK hm' hU HV
          generalize valV V l = z at *
          go_wp2_with fail
          refine HOf.out.mono ?_
          rintro e w' ⟨rfl, rfl⟩
          go_wp2_with fail
          refine HOf.out.mono ?_
          rintro e w' ⟨rfl, rfl⟩
          go_wp2_with fail
          refine HH.out.mono ?_
          rintro e w' ⟨rfl, rfl⟩
          go_wp2_with fail
          go_roundw
          case rel => exact ⟨j + 1, U, by first | rfl | trivial, by first | rfl | trivial, by go_num, by omega, by omega, by first | rfl | trivial, HN⟩
          case measure => simp [intOf]; omega
        · have HN := Lib.hid (hU.out.more h0 hm')
          rw [← HTK.out] at HN
          rw [show hasB (xs.take j) l = false from by rw [Bool.eq_false_iff]; exact fun e => hm' ((hasB_iff _ _).1 e)] at HH
          clear HIN HRT HTK hm' hU HV
          generalize valV V l = z at *
          have hUl : (U ++ [l]).length = U.length + 1 := by simp
          have hUg : lst (U ++ [l]) = l := by unfold lst; simp
          generalize hLL : lst U = ll at *
          clear hLL
          go_wp2_with fail
          refine HOf.out.mono ?_
          rintro e w' ⟨rfl, rfl⟩
          go_wp2_with fail
          refine HOf.out.mono ?_
          rintro e w' ⟨rfl, rfl⟩
          go_wp2_with fail
          refine HH.out.mono ?_
          rintro e w' ⟨rfl, rfl⟩
          go_wp2_with fail
          go_roundw
          case rel => exact ⟨j + 1, U ++ [l], by rw [hUl]; go_num, by rw [hUg], by go_num, by omega, by omega, by first | rfl | trivial, HN⟩
          case measure => simp [intOf]; omega
      · have t0 : (valV V l == 0) = false := by simpa using h0
        have HN := Lib.hid (hU.out.skip hz (.inl h0))
        rw [← HTK.out] at HN
        clear HIN HRT HTK hU HV HH
        generalize valV V l = z at *
        go_wp2_with fail
        refine HOf.out.mono ?_
        rintro e w' ⟨rfl, rfl⟩
        go_wp2_with fail
        refine HOf.out.mono ?_
        rintro e w' ⟨rfl, rfl⟩
        go_wp2_with fail
        go_roundw
        case rel => exact ⟨j + 1, U, by first | rfl | trivial, by first | rfl | trivial, by go_num, by omega, by omega, by first | rfl | trivial, HN⟩
        case measure => simp [intOf]; omega
    · have tj : decide (j < m) = false := decide_eq_false hlt
      have tj2 : decide ((j : Int) < (m : Int)) = false := decide_eq_false (by omega)
      obtain rfl : j = m := by omega
      have hfull : xs.take j = xs := List.take_of_length_le (by have := HL.out; omega)
      rw [hfull] at hU
      go_wp2_with fail
      go_ret3
      exact ⟨rfl, .inr ⟨U, hU.out, rfl⟩⟩
end Go.Proofs.Ytdecejhobefefaa
namespace Go.Proofs.Ytdecejhobefefaa
open Go.RowKit LitM TrailM EngM

/-- Clauses that can be read, each within its slice's capacity. -/
structure RdG (w : World) (A : Option Addr) (n : Nat) (cs : List (List Int)) : Prop where
  len : cs.length = n
  at_ : ∀ j, j < n → ∃ b o Aj cj, A = some ⟨b, o, none⟩ ∧ w.cell? ⟨b, o + j, none⟩ = some (.slice Aj (cs.getD j []).length cj) ∧ (cs.getD j []).length ≤ cj ∧ cj ≤ 9223372036854775807 ∧ Rd .i32 w w.heap.size Aj (cs.getD j []).length (cs.getD j [])
theorem RdG.nil (w : World) (A : Option Addr) : RdG w A 0 [] := ⟨rfl, fun j hj => by omega⟩
theorem RdG.below {w w' : World} {A : Option Addr} {n : Nat} {cs : List (List Int)} (h : RdG w A n cs) (hb : Below w.heap.size w w') : RdG w' A n cs := by
  refine ⟨h.len, fun j hj => ?_⟩
  obtain ⟨b, o, Aj, cj, e, hc, h1, h2, hr⟩ := h.at_ j hj
  exact ⟨b, o, Aj, cj, e, (hb.cell (p := ⟨b, o + j, none⟩) (World.block_lt_of_cell? _ _ hc)).trans hc, h1, h2, (hr.below hb).more hb.size⟩
/-- Is a clause no reason to go on? -/
def Quiet (V : Nat → Int) (c : List Int) : Prop := (∃ y ∈ c, valV V y = 1) ∨ ∃ a b, a ∈ c ∧ b ∈ c ∧ a ≠ b ∧ valV V a = 0 ∧ valV V b = 0
/-- V comes of V0 by clauses with one literal left. -/
structure Clo (cs : List (List Int)) (V0 V : Nat → Int) : Prop where
  bd : ∀ k, -1 ≤ V k ∧ V k ≤ 1
  ext : ∀ k, V0 k ≠ 0 → V k = V0 k
  zer : V 0 = V0 0
  snd : ∀ T : Int → Prop, (∀ c ∈ cs, ∀ x ∈ c, (∀ y ∈ c, y ≠ x → T (-y)) → T x) → (∀ y, LitM.one y = true → valV V0 y = 1 → T y) → ∀ y, LitM.one y = true → valV V y = 1 → T y
theorem Clo.refl (cs : List (List Int)) {V : Nat → Int} (hb : ∀ k, -1 ≤ V k ∧ V k ≤ 1) : Clo cs V V := ⟨hb, fun _ _ => rfl, rfl, fun _ _ h => h⟩
theorem val_bd {V : Nat → Int} (hb : ∀ k, -1 ≤ V k ∧ V k ≤ 1) (y : Int) : -1 ≤ valV V y ∧ valV V y ≤ 1 := by
  unfold valV
  split
  · have := hb (-y).toNat; omega
  · exact hb _
theorem setV_val {V : Nat → Int} {l y : Int} (h : valV (setV V l) y = 1) : y = l ∨ valV V y = 1 := by
  unfold valV setV at h
  unfold valV
  by_cases e : y < 0
  · rw [if_pos e] at h ⊢
    by_cases e2 : l < 0
    · rw [if_pos e2] at h
      by_cases e3 : (-y).toNat = (-l).toNat
      · exact .inl (by omega)
      · rw [if_neg e3] at h; exact .inr h
    · rw [if_neg e2] at h
      by_cases e3 : (-y).toNat = l.toNat
      · rw [if_pos e3] at h; omega
      · rw [if_neg e3] at h; exact .inr h
  · rw [if_neg e] at h ⊢
    by_cases e2 : l < 0
    · rw [if_pos e2] at h
      by_cases e3 : y.toNat = (-l).toNat
      · rw [if_pos e3] at h; omega
      · rw [if_neg e3] at h; exact .inr h
    · rw [if_neg e2] at h
      by_cases e3 : y.toNat = l.toNat
      · exact .inl (by omega)
      · rw [if_neg e3] at h; exact .inr h
theorem Clo.step {cs : List (List Int)} {V0 V : Nat → Int} {c U : List Int} (h : Clo cs V0 V) (hc : c ∈ cs) (hone : ∀ y ∈ c, LitM.one y = true) (hU : LefZ V c U) (h1 : U.length = 1) : Clo cs V0 (setV V (lst U)) := by
  have hm := lst_mem (U := U) (fun e => by rw [e] at h1; cases h1)
  obtain ⟨hlc, hl0⟩ := (hU.un _).1 hm
  have ho := (one_iff _).1 (hone _ hlc)
  have only : ∀ y ∈ c, y ≠ lst U → valV V y = -1 := fun y hy hne => by
    have a1 := hU.no y hy
    have a2 := val_bd h.bd y
    have a3 : valV V y ≠ 0 := fun e => by
      have hyU := (hU.un y).2 ⟨hy, e⟩
      obtain ⟨x, rfl⟩ := List.length_eq_one_iff.1 h1
      rw [List.mem_singleton] at hm hyU
      exact hne (hyU.trans hm.symm)
    omega
  refine ⟨fun k => ?_, fun k hk => ?_, ?_, fun T hT h0 y hy hv => ?_⟩
  · have := h.bd k
    unfold setV
    split <;> split <;> omega
  · have he := h.ext k hk
    rw [← he]
    have hne : V k ≠ 0 := by rw [he]; exact hk
    unfold valV at hl0
    unfold setV
    by_cases e : lst U < 0
    · rw [if_pos e] at hl0 ⊢
      rw [if_neg (fun e2 => hne (by rw [e2]; omega))]
    · rw [if_neg e] at hl0 ⊢
      rw [if_neg (fun e2 => hne (by rw [e2]; omega))]
  · rw [← h.zer]
    unfold setV
    split <;> rw [if_neg (by omega)]
  · have hyo := (one_iff y).1 hy
    rcases setV_val hv with e | e
    · rw [e]
      refine hT c hc _ hlc fun z hz hne => ?_
      have hzo := hone z hz
      have := (one_iff z).1 hzo
      exact h.snd T hT h0 (-z) (one_neg hzo) (by rw [valV_neg (by omega), only z hz hne]; omega)
    · exact h.snd T hT h0 y hy e
/-- How many have no value. -/
def zcV (V : Nat → Int) (n : Nat) : Nat := ((List.range n).filter fun k => decide (V k = 0)).length
theorem zcV_set {V : Nat → Int} {n : Nat} {l : Int} (h0 : valV V l = 0) (h1 : LitM.one l = true) (hn : varZ l < (n : Int)) : zcV (setV V l) n < zcV V n := by
  have ho := (one_iff l).1 h1
  unfold zcV
  obtain ⟨k, hkn, hk0, hs⟩ : ∃ k, k < n ∧ V k = 0 ∧ (∀ i, setV V l i = if i = k then (if l < 0 then -1 else 1) else V i) := by
    by_cases e : l < 0
    · refine ⟨(-l).toNat, ?_, ?_, fun i => ?_⟩
      · rw [varZ_neg (by omega) (by omega)] at hn; omega
      · unfold valV at h0; rw [if_pos e] at h0; omega
      · unfold setV; rw [if_pos e, if_pos e]
    · refine ⟨l.toNat, ?_, ?_, fun i => ?_⟩
      · rw [varZ_pos (by omega) (by omega)] at hn; omega
      · unfold valV at h0; rw [if_neg e] at h0; exact h0
      · unfold setV; rw [if_neg e, if_neg e]
  have hsub : ∀ i ∈ (List.range n).filter (fun i => decide (setV V l i = 0)), i ∈ ((List.range n).filter fun i => decide (V i = 0)).erase k := fun i hi => by
    obtain ⟨a, b⟩ := List.mem_filter.1 hi
    have b := of_decide_eq_true b
    rw [hs] at b
    by_cases e : i = k
    · rw [if_pos e] at b
      split at b <;> omega
    · rw [if_neg e] at b
      exact (List.mem_erase_of_ne e).2 (List.mem_filter.2 ⟨a, decide_eq_true b⟩)
  have hnd : ((List.range n).filter fun i => decide (setV V l i = 0)).Nodup := List.nodup_range.sublist List.filter_sublist
  have h2 := List.Nodup.length_le_of_subset hnd hsub
  have hmem : k ∈ (List.range n).filter fun i => decide (V i = 0) := List.mem_filter.2 ⟨List.mem_range.2 hkn, decide_eq_true hk0⟩
  rw [List.length_erase_of_mem hmem] at h2
  have := List.length_pos_of_mem hmem
  omega
/-- The same, as memory has it; and the loop's measure. -/
def zcW (w : World) (v : Value) : Nat := match v with
  | .slice (some a) n _ => ((List.range n).filter fun k => match w.cell? ⟨a.block, k, none⟩ with | some (.int _ x) => decide (x = 0) | _ => false).length
  | _ => 0
def mClo (v av : Value) (w : World) : Nat := match av with
  | .bool true => zcW w v + 1
  | _ => 0
theorem mClo_t {w : World} {g n c : Nat} {V : Nat → Int} (h : RowV 3 1 w g n c (intV V)) : mClo (.slice (some ⟨g, 0, none⟩) n c) (.bool true) w = zcV V n + 1 := by
  show ((List.range n).filter fun k => match w.cell? ⟨g, k, none⟩ with | some (.int _ x) => decide (x = 0) | _ => false).length + 1 = _
  unfold zcV
  congr 2
  refine List.filter_congr fun k hk => ?_
  rw [h.cell (show k < n * 1 by have := List.mem_range.1 hk; omega)]; rfl
theorem mClo_f (v : Value) (w : World) : mClo v (.bool false) w = 0 := rfl
/-- What Close leaves. -/
def CloTo (n : Nat) (cs : List (List Int)) (V0 : Nat → Int) (w : World) (e : Ending) (w' : World) : Prop :=
  Below w.heap.size w w' ∧ ∃ g' c' V fl, e = .returned (.tuple #[.slice (some ⟨g', 0, none⟩) n c', .bool fl]) ∧ RowV 3 1 w' g' n c' (intV V) ∧ Clo cs V0 V ∧ (fl = true → ∃ c ∈ cs, ∀ y ∈ c, valV V y = -1) ∧ (fl = false → ∀ c ∈ cs, Quiet V c)
theorem quiet_two {V : Nat → Int} {c U : List Int} (hU : LefZ V c U) (h : 2 ≤ U.length) : Quiet V c := by
  match U, h, hU with
  | a :: b :: r, _, hU =>
    have ha := (hU.un a).1 (by simp)
    have hb := (hU.un b).1 (by simp)
    exact .inr ⟨a, b, ha.1, hb.1, fun e => by have := hU.nd; simp [e] at this, ha.2, hb.2⟩
set_option maxHeartbeats 6400000 in
set_option maxRecDepth 100000 in
theorem close_any {w : World} {g n c : Nat} {V0 : Nat → Int} (h : RowV 3 1 w g n c (intV V0)) (hb : ∀ k, -1 ≤ V0 k ∧ V0 k ≤ 1) (hnn : n ≤ 1000) {A : Option Addr} {m c2 : Nat} {cs : List (List Int)} (hs : RdG w A m cs) (hx : ∀ c ∈ cs, c.length ≤ 100000 ∧ ∀ y ∈ c, LitM.one y = true ∧ varZ y < (n : Int)) (hm : m ≤ 100000) :
    Calls Try.prog 67 #[.slice (some ⟨g, 0, none⟩) n c, .slice A m c2] w (CloTo n cs V0 w) := by
  have HS := Lib.hid hs
  have HX := Lib.hid hx
  have HR0 := Lib.hid h
  have HC0 : Hid (Clo cs V0 V0) := Clo.refl cs hb
  have HML := Lib.hid hs.len
  clear hs hx h hb
  obtain ⟨w0, hw0⟩ : ∃ w0 : World, w0 = w := ⟨_, rfl⟩
  rw [← hw0] at HR0 HS ⊢
  have HB0 : Hid (Below w0.heap.size w0 w0) := Below.refl _ _
  have HBA : Hid (∀ W, Below w0.heap.size w0 W → RdG W A m cs) := fun W h => HS.out.below h
  clear hw0 HS
  go_enter Try.func67, Try.ntmps67
  go_wp2_with fail
  go_loopw [0, 6] (fun vv av wr => ∃ (g c : Nat) (V : Nat → Int) (al : Bool), vv = .slice (some ⟨g, 0, none⟩) n c ∧ av = .bool al ∧ Hid (RowV 3 1 wr g n c (intV V)) ∧ Hid (Clo cs V0 V) ∧ Hid (al = false → ∀ c ∈ cs, Quiet V c) ∧ Hid (Below w0.heap.size w0 wr)) (fun vv av wr => mClo vv av wr)
  case atStart => exact ⟨g, c, V0, true, rfl, rfl, HR0, HC0, Lib.hid (fun h => by cases h), HB0⟩
  case round =>
    clear HR0 HC0 HB0
    obtain ⟨g1, c1, V1, al, rfl, rfl, hR, hC, hQ, hB⟩ := hrel
    cases al with
    | false =>
      have HQ := Lib.hid (hQ.out rfl)
      clear hQ
      go_wp2_with fail
      go_ret2
      exact ⟨hB.out, g1, c1, V1, false, rfl, hR.out, hC.out, (fun h => by cases h), (fun _ => HQ.out)⟩
    | true =>
      have hM1 := mClo_t hR.out
      have HM1 := Lib.hid hM1
      clear hM1 hQ
      go_wp2_with fail
      go_loopw [0, 6, 15] (fun vv av pv wr => ∃ (j g c : Nat) (V : Nat → Int) (al : Bool), vv = .slice (some ⟨g, 0, none⟩) n c ∧ av = .bool al ∧ pv = .int .i64 (j : Int) ∧ j ≤ m ∧ Hid (RowV 3 1 wr g n c (intV V)) ∧ Hid (Clo cs V0 V) ∧ Hid (al = false → ∀ i, i < j → Quiet V (cs.getD i [])) ∧ Hid (zcV V n ≤ zcV V1 n ∧ (al = true → zcV V n < zcV V1 n)) ∧ Hid (Below w0.heap.size w0 wr)) (fun _ _ pv _ => m - (intOf pv).toNat)
      case atStart => exact ⟨0, g1, c1, V1, false, rfl, by first | rfl | trivial, rfl, by omega, hR, hC, Lib.hid (fun _ i hi => by omega), Lib.hid ⟨Nat.le_refl _, fun h => by cases h⟩, hB⟩
      case round =>
        clear hR hC hB
        obtain ⟨j, g2, cc, V, al, rfl, rfl, rfl, hj, hR, hC, hQ, hZ, hB⟩ := hrel
        by_cases hlt : j < m
        · have tj : decide (j < m) = true := decide_eq_true hlt
          have tj2 : decide ((j : Int) < (m : Int)) = true := decide_eq_true (by omega)
          obtain ⟨bj, o, Aj, cj, rfl, hcm, hnc, hcj, hRd⟩ := (HBA.out _ hB.out).at_ j hlt
          have hmem : cs.getD j [] ∈ cs := by
            have := HML.out
            rw [List.getD, List.getElem?_eq_getElem (by omega)]; exact List.getElem_mem _
          obtain ⟨x1, x2⟩ := HX.out _ hmem
          have HL := Lib.hid (left_any hR.out hC.out.bd hnn hRd x2 hnc hcj x1)
          have HMEM := Lib.hid hmem
          have HX2 := Lib.hid x2
          have HNQ : Hid (∀ V' : Nat → Int, (∀ i, i < j → Quiet V' (cs.getD i [])) → Quiet V' (cs.getD j []) → ∀ i, i < j + 1 → Quiet V' (cs.getD i [])) := fun V' h1 h2 i hi => by
            by_cases e : i = j
            · rw [e]; exact h2
            · exact h1 i (by omega)
          clear hmem x1 x2 hRd
          generalize cs.getD j [] = cl at *
          generalize cl.length = ln at *
          go_wp2_with fail
          refine HL.out.mono ?_
          rintro e w' ⟨rfl, hl⟩
          rcases hl with ⟨hd, rfl⟩ | ⟨U, hU, rfl⟩
          · have HQ2 : Hid (al = false → ∀ i, i < j + 1 → Quiet V (cs.getD i [])) := fun h => HNQ.out V (hQ.out h) (.inl hd)
            clear hd hQ HL hcm
            go_wp2_with fail
            go_roundw
            case rel => exact ⟨j + 1, g2, cc, V, al, by first | rfl | trivial, by first | rfl | trivial, by go_num, by omega, hR, hC, HQ2, hZ, hB⟩
            case measure => simp [intOf]; omega
          obtain ⟨ul, hul⟩ : ∃ ul, ul = U.length := ⟨_, rfl⟩
          rw [← hul]
          rcases Nat.lt_trichotomy ul 1 with h1 | h1 | h1
          · have u0 : ul = 0 := by omega
            subst u0
            have HRT : Hid (∃ c ∈ cs, ∀ y ∈ c, valV V y = -1) := ⟨cl, HMEM.out, fun y hy => by
              have a1 := hU.no y hy
              have a2 := val_bd hC.out.bd y
              have hn : U = [] := List.eq_nil_of_length_eq_zero hul.symm
              have a3 : valV V y ≠ 0 := fun e => by
                have := (hU.un y).2 ⟨hy, e⟩
                rw [hn] at this; cases this
              omega⟩
            clear hU hul HL hcm hQ
            go_wp2_with fail
            go_ret2
            exact ⟨hB.out, g2, cc, V, true, rfl, hR.out, hC.out, (fun _ => HRT.out), (fun h => by cases h)⟩
          · subst h1
            have hUm := lst_mem (U := U) (fun e => by rw [e] at hul; cases hul)
            obtain ⟨hlc, hl0⟩ := (hU.un _).1 hUm
            obtain ⟨o1, o2⟩ := HX2.out _ hlc
            have HW := Lib.hid (with_any hR.out (lst U) o1 o2 hnn)
            have HC2 := Lib.hid (hC.out.step HMEM.out (fun y hy => (HX2.out y hy).1) hU hul.symm)
            have HZ2 : Hid (zcV (setV V (lst U)) n < zcV V1 n) := Nat.lt_of_lt_of_le (zcV_set hl0 o1 o2) hZ.out.1
            clear hUm hlc hl0 o1 o2 hU hul HL hcm hQ hZ HNQ
            generalize lst U = l at *
            go_wp2_with fail
            refine HW.out.mono ?_
            rintro e w5 ⟨g5, c5, rfl, hr5, _, hb5⟩
            have HR5 := Lib.hid hr5
            have HB5 : Hid (Below w0.heap.size w0 w5) := hB.out.trans (hb5.mono hB.out.size)
            clear hr5 hb5 HW hR hC
            go_wp2_with fail
            go_roundw
            case rel => exact ⟨j + 1, g5, c5, _, true, by first | rfl | trivial, by first | rfl | trivial, by go_num, by omega, HR5, HC2, Lib.hid (fun h => by cases h), Lib.hid ⟨Nat.le_of_lt HZ2.out, fun _ => HZ2.out⟩, HB5⟩
            case measure => simp [intOf]; omega
          · have t0 : ((ul : Int) == 0) = false := by rw [beq_eq_false_iff_ne]; omega
            have t1 : ((ul : Int) == 1) = false := by rw [beq_eq_false_iff_ne]; omega
            have HQ2 : Hid (al = false → ∀ i, i < j + 1 → Quiet V (cs.getD i [])) := fun h => HNQ.out V (hQ.out h) (quiet_two hU (by omega))
            clear hU hul HL hcm hQ h1
            go_wp2_with fail
            go_roundw
            case rel => exact ⟨j + 1, g2, cc, V, al, by first | rfl | trivial, by first | rfl | trivial, by go_num, by omega, hR, hC, HQ2, hZ, hB⟩
            case measure => simp [intOf]; omega
        have tj : decide (j < m) = false := decide_eq_false hlt
        have tj2 : decide ((j : Int) < (m : Int)) = false := decide_eq_false (by omega)
        obtain rfl : j = m := by omega
        have HQA : Hid (al = false → ∀ c ∈ cs, Quiet V c) := fun h c hc => by
          obtain ⟨x, hx, rfl⟩ := List.getElem_of_mem hc
          have h2 := HML.out
          have := hQ.out h x (by omega)
          rw [List.getD, List.getElem?_eq_getElem hx] at this
          exact this
        have HMM : Hid (∀ (W : World) vv, vv = .slice (some ⟨g2, 0, none⟩) n cc → RowV 3 1 W g2 n cc (intV V) → mClo vv (.bool al) W < zcV V1 n + 1) := fun W vv e hw => by
          rw [e]
          cases al with
          | true => rw [mClo_t hw]; have := hZ.out.2 rfl; omega
          | false => rw [mClo_f]; omega
        clear hQ hZ
        go_wp2_with fail
        go_roundw
        case rel => exact ⟨g2, cc, V, al, by first | rfl | trivial, by first | rfl | trivial, hR, hC, HQA, hB⟩
        case measure =>
          have h1 := HMM.out _ _ rfl hR.out
          have h2 := HM1.out
          rw [h2]; exact h1
end Go.Proofs.Ytdecejhobefefaa
