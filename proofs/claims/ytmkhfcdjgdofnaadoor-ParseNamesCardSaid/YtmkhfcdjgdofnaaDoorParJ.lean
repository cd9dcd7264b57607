/- Plain facts: the words of a text end with the end, and are within bounds. No program. -/
import Derived.Test.YtmkhfcdjgdofnaaDoorParN
namespace Go.Proofs.YtmkhfcdjgdofnaaDoor.ParM
open WrdM TreM

theorem numL_nn : ∀ (l : List UInt8) (a : Int), 0 ≤ a → l.all digB = true → 0 ≤ l.foldl (fun n c => 10 * n + ((c.toNat : Int) - 48)) a
  | [], a, h, _ => h
  | c :: cs, a, h, hd => by
    rw [List.all_cons, Bool.and_eq_true] at hd
    rw [List.foldl_cons]
    refine numL_nn cs _ ?_ hd.2
    have hc := hd.1
    unfold digB at hc
    rw [Bool.and_eq_true, decide_eq_true_eq, decide_eq_true_eq] at hc
    have h1 : (48 : UInt8).toNat ≤ c.toNat := hc.1
    have : (48 : UInt8).toNat = 48 := rfl
    omega
theorem tw_all (p : UInt8 → Bool) : ∀ l : List UInt8, (l.takeWhile p).all p = true
  | [] => rfl
  | c :: cs => by
    rw [List.takeWhile_cons]
    split
    · rename_i h; rw [List.all_cons, h, tw_all p cs]; rfl
    · rfl
theorem word_ok {l : List UInt8} (h : (wordL l).err = 0) : (wordL l).kind ≠ 5 ∧ 0 ≤ (wordL l).kind ∧ (wordL l).kind ≤ 5 ∧ 0 ≤ (wordL l).num ∧ (wordL l).num ≤ 1000000 := by
  unfold wordL at h ⊢
  split
  · rename_i h1
    rw [if_pos h1] at h
    unfold namW at h ⊢
    split at h
    · (dsimp only at h; omega)
    · rename_i h2
      rw [if_neg h2]
      split <;> (dsimp only; omega)
  · rename_i h1
    rw [if_neg h1] at h
    split
    · rename_i h3
      rw [if_pos h3] at h
      unfold digW at h ⊢
      split at h
      · (dsimp only at h; omega)
      · rename_i h4
        rw [if_neg h4]
        split at h
        · (dsimp only at h; omega)
        · rename_i h5
          rw [if_neg h5]
          have := numL_nn (l.takeWhile digB) 0 (by omega) (tw_all digB l)
          have h6 : numL (l.takeWhile digB) = (l.takeWhile digB).foldl (fun n c => 10 * n + ((c.toNat : Int) - 48)) 0 := rfl
          dsimp only; omega
    · rename_i h3
      rw [if_neg h3] at h
      unfold sgnW at h ⊢
      split at h
      · (dsimp only at h; omega)
      · rename_i h4
        rw [if_neg h4]
        dsimp only; omega
theorem pre_ok {t : Tok} {o : Out} {ts : List Tok} (h : Out.pre [t] o = .ok ts) : ∃ us, o = .ok us ∧ ts = t :: us := by
  cases o with
  | bad e l c => cases h
  | ok us =>
    injection h with h
    exact ⟨us, rfl, by rw [← h]; rfl⟩
theorem ends_go : ∀ (cs : List UInt8) (k : Nat) (r : Bool) (L C : Int) (ts : List Tok), 1 ≤ L → 1 ≤ C → L + cs.length ≤ 65540 → C + cs.length ≤ 65540 → go k r L C cs = .ok ts → EndsT ts
  | [], k, r, L, C, ts, h1, h2, h3, h4, h => by
    have hg : go k r L C [] = .ok [⟨5, [], 0, L, C⟩] := by cases k <;> rfl
    rw [hg] at h
    injection h with h
    subst h
    simp only [List.length_nil] at h3 h4
    exact ⟨⟨by simp, by dsimp only; omega, by dsimp only; omega, h1, by show L ≤ 70000; omega, h2, by show C ≤ 70000; omega, by dsimp only; omega, by dsimp only; omega⟩, .inl ⟨rfl, rfl, rfl⟩⟩
  | c :: cs, k + 1, r, L, C, ts, h1, h2, h3, h4, h => by
    rw [go] at h
    rw [List.length_cons] at h3 h4
    have hn : 1 ≤ nl L c ∧ nl L c ≤ L + 1 := by unfold nl; split <;> omega
    have hc : 1 ≤ nc C c ∧ nc C c ≤ C + 1 := by unfold nc; split <;> omega
    exact ends_go cs k r _ _ ts hn.1 hc.1 (by omega) (by omega) h
  | c :: cs, 0, r, L, C, ts, h1, h2, h3, h4, h => by
    rw [go] at h
    rw [List.length_cons] at h3 h4
    split at h
    · exact ends_go cs 0 false _ _ ts (by omega) (by omega) (by omega) (by omega) h
    · split at h
      · exact ends_go cs 0 true _ _ ts h1 (by omega) (by omega) (by omega) h
      · split at h
        · exact ends_go cs 0 false _ _ ts h1 (by omega) (by omega) (by omega) h
        · split at h
          · rename_i he
            have he : (wordL (c :: cs)).err = 0 := by simpa using he
            obtain ⟨us, hu, rfl⟩ := pre_ok h
            obtain ⟨d, ds, r', e1, e2, e3, e4⟩ := wordL_pre (c :: cs) he
            obtain ⟨k1, k2, k3, k4, k5⟩ := word_ok he
            refine ⟨⟨e4, k4, k5, h1, by show L ≤ 70000; omega, h2, by show C ≤ 70000; omega, k2, k3⟩, .inr ⟨k1, ?_, ends_go cs _ false _ _ us h1 (by omega) (by omega) (by omega) hu⟩⟩
            show (wordL (c :: cs)).text ≠ []
            rw [e1]; simp
          · cases h
theorem ends_cut {s : List UInt8} {ts : List Tok} (h : cutL s = .ok ts) : EndsT ts := by
  unfold cutL at h
  split at h
  · cases h
  · exact ends_go s 0 false 1 1 ts (by omega) (by omega) (by omega) (by omega) h
end Go.Proofs.YtmkhfcdjgdofnaaDoor.ParM
