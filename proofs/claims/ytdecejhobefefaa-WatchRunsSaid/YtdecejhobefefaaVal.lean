/- Values as a row of ints: the contracts of Of and some; what holds wherever all clauses hold. -/
import Derived.Test.YtdecejhobefefaaLead
import Derived.Test.YtdecejhobefefaaFrsh
namespace Go.Proofs.Ytdecejhobefefaa
open Go.RowKit LitM TrailM EngM

/-- A literal's value. -/
def valV (V : Nat → Int) (l : Int) : Int := if l < 0 then -V (-l).toNat else V l.toNat
def intV (V : Nat → Int) : Nat → Value := fun k => .int .i64 (V k)
def someB (V : Nat → Int) (xs : List Int) : Bool := xs.any fun y => decide (valV V y = 1)
theorem valV_neg {V : Nat → Int} {y : Int} (h : y ≠ 0) : valV V (-y) = -valV V y := by
  unfold valV
  by_cases e : y < 0
  · rw [if_neg (by omega), if_pos e, Int.neg_neg]
  · rw [if_pos (by omega), if_neg e, Int.neg_neg]
set_option maxHeartbeats 1600000 in
theorem of_any {w : World} {g n : Nat} {V : Nat → Int} (h : RowV 3 1 w g n n (intV V)) (hb : ∀ k, -1 ≤ V k ∧ V k ≤ 1) (l : Int) (h1 : LitM.one l = true) (hn : varZ l < (n : Int)) (hnn : n ≤ 1000) :
    Calls Try.prog 65 #[.slice (some ⟨g, 0, none⟩) n n, .int .i32 l] w fun e w' => e = .returned (.int .i64 (valV V l)) ∧ w = w' := by
  have ho := (one_iff l).1 h1
  unfold valV
  by_cases hl : l < 0
  · have tl : decide (l < 0) = true := decide_eq_true hl
    rw [if_pos hl]
    obtain ⟨k, hk⟩ : ∃ k : Nat, l = -(k : Int) := ⟨(-l).toNat, by omega⟩
    have hk2 : (-l).toNat = k := by omega
    have hkn : k < n := by
      rw [varZ_neg (by omega) (by omega)] at hn; omega
    rw [hk2]
    have hc : w.cell? ⟨g, k, none⟩ = some (.int .i64 (V k)) := h.cell (show k < n * 1 by omega)
    have hb1 := hb k
    generalize V k = z at *
    clear h
    subst hk
    have tk : decide (0 < k) = true := decide_eq_true (by omega)
    go_enter Try.func65, Try.ntmps65
    go_wp2_with fail
    go_ret
    exact ⟨rfl, rfl⟩
  · have tl : decide (l < 0) = false := decide_eq_false hl
    rw [if_neg hl]
    obtain ⟨k, rfl⟩ : ∃ k : Nat, l = (k : Int) := ⟨l.toNat, by omega⟩
    rw [Int.toNat_natCast]
    have hkn : k < n := by
      rw [varZ_pos (by omega) (by omega)] at hn; omega
    have hc : w.cell? ⟨g, k, none⟩ = some (.int .i64 (V k)) := h.cell (show k < n * 1 by omega)
    have hb1 := hb k
    generalize V k = z at *
    clear h
    go_enter Try.func65, Try.ntmps65
    go_wp2_with fail
    go_ret
    exact ⟨rfl, rfl⟩
/-- Wherever all clauses hold what is learnt holds. -/
theorem holds_learnt {S : Eng} (hI : Inv S) {t : Nat} {zs : List Int} (h : Lrnt S t zs) {V : Nat → Int} (hV : ∀ k, 1 ≤ k → k ≤ S.n → V k = 1 ∨ V k = -1) {all : List (List Int)} (hall : all = (S.cs.map Cl.ls).filter fun c => !bothB c) (hs : ∀ c ∈ all, someB V c = true) : someB V zs = true := by
  have hcls : Cls S (fun y => valV V y = 1) := by
    refine ⟨fun y hy h1 h2 => ?_, fun i hi hp hb => .inl ?_⟩
    · have := (one_iff y).1 hy
      have h2 : valV V (-y) = 1 := h2
      rw [valV_neg (by omega)] at h2
      have h1 : valV V y = 1 := h1
      omega
    · have hm : (clA S.cs i).ls ∈ all := by
        rw [hall, List.mem_filter]
        refine ⟨List.mem_map.2 ⟨clA S.cs i, ?_, rfl⟩, by rw [hb]; rfl⟩
        unfold clA
        rw [List.getD, List.getElem?_eq_getElem hi]; exact List.getElem_mem _
      obtain ⟨y, hy, e⟩ := List.any_eq_true.1 (hs _ hm)
      exact ⟨y, hy, of_decide_eq_true e⟩
  by_cases hno : ∃ l ∈ zs, valV V l = 1
  · obtain ⟨l, hl, e⟩ := hno
    exact List.any_eq_true.2 ⟨l, hl, decide_eq_true e⟩
  · refine (h.rup _ hcls fun l hl => ?_).elim
    obtain ⟨h1, h2⟩ := false_var hI (h.fl l hl).1
    have h3 := (one_iff l).1 h2
    show valV V (-l) = 1
    rw [valV_neg (by omega)]
    have hne : valV V l ≠ 1 := fun e => hno ⟨l, hl, e⟩
    unfold valV at hne ⊢
    by_cases e : l < 0
    · rw [if_pos e] at hne ⊢
      rw [varZ_neg (by omega) (by omega)] at h1
      have := hV (-l).toNat (by omega) (by omega)
      omega
    · rw [if_neg e] at hne ⊢
      rw [varZ_pos (by omega) (by omega)] at h1
      have := hV l.toNat (by omega) (by omega)
      omega
theorem cls_map {a b : List Cl} (hl : a.length = b.length) (h : ∀ i, (clA a i).ls = (clA b i).ls) : a.map Cl.ls = b.map Cl.ls := by
  refine List.ext_getElem (by simp [hl]) fun i h1 h2 => ?_
  have h3 : i < a.length := by simpa using h1
  have h4 : i < b.length := by simpa using h2
  have := h i
  unfold clA at this
  rw [List.getD, List.getD, List.getElem?_eq_getElem h3, List.getElem?_eq_getElem h4] at this
  simpa using this
end Go.Proofs.Ytdecejhobefefaa
