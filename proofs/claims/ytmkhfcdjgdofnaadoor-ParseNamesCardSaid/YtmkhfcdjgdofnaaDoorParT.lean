/- Package parse: a variable whose range has no second end. -/
import Derived.Test.YtmkhfcdjgdofnaaDoorParS
namespace Go.Proofs.YtmkhfcdjgdofnaaDoor
open Go.RowKit TreM WrdM ParM

abbrev z7 : Array Value := #[.string ⟨#[]⟩, .string ⟨#[]⟩, .int .i64 0, .int .i64 0, .slice none 0 0, .int .i64 0, .int .i64 0]
theorem pcells7 {w : World} {g : Nat} {a b c d e f i : Value} {t : TypeId} {q : Nat × Nat} (h : w.heap[g]? = some (.cells #[a, b, c, d, e, f, i] t q)) :
    w.cell? ⟨g, 0, none⟩ = some a ∧ w.cell? ⟨g, 1, none⟩ = some b ∧ w.cell? ⟨g, 2, none⟩ = some c ∧ w.cell? ⟨g, 3, none⟩ = some d ∧ w.cell? ⟨g, 4, none⟩ = some e ∧ w.cell? ⟨g, 5, none⟩ = some f ∧ w.cell? ⟨g, 6, none⟩ = some i := by
  refine ⟨?_, ?_, ?_, ?_, ?_, ?_, ?_⟩ <;> (rw [Lib.cell_of_heap h]; rfl)
set_option maxHeartbeats 6400000 in
set_option maxRecDepth 100000 in
theorem decl_bad (g : Nat) (L r1 r2 r3 r5 r6 : List Tok) (nm t4 : Tok) (r4 : List Tok) (lo l c : Int) (w : World) (_hg : 3 ≤ g) (h : Rdr w g L 0)
    (h1 : mustR wVar L = .ok () r1) (h2 : kindR 1 r1 = .ok nm r2) (h3 : mustR [58] r2 = .ok () r3) (h4 : r3 = t4 :: r4) (h4k : t4.kind ≠ 1) (h4t : t4.text ≠ boolT)
    (h5 : boundR r3 = .ok lo r5) (h6 : mustR [46, 46] r5 = .ok () r6) (h7 : boundR r6 = .bad l c) :
    Calls Tryd.prog 33 #[.pointer (some ⟨g, 0, none⟩)] w fun e w' => e = Thr l c ∧ Below g w w' := by
  have hlt := h.lt
  obtain ⟨wa, hwa⟩ : ∃ wa, wa = w.alloc (.cells z7 56) := ⟨_, rfl⟩
  have hba : Below w.heap.size w wa := by rw [hwa]; exact below_alloc w _
  have hza : wa.heap.size = w.heap.size + 1 := by rw [hwa]; simp
  have HM := Lib.hid (must_any L wVar (by decide) wa (h.below hba))
  rw [h1] at HM
  have HKA : Hid (Kg g w wa) := Kg.of_below hba
  have HL := Lib.hid hlt
  have HWA := Lib.hid hwa
  have HGA : Hid (g < wa.heap.size) := by unfold Hid; omega
  have HN : Hid (∀ W, Rdr W g r1 0 → Calls Tryd.prog 52 #[.pointer (some ⟨g, 0, none⟩)] W (PTo g 0 W RTok (.ok nm r2))) := fun W hW => by
    have := rname_any r1 W hW
    rwa [h2] at this
  have HM2 : Hid (∀ W, Rdr W g r2 0 → Calls Tryd.prog 51 #[.pointer (some ⟨g, 0, none⟩), .string ⟨#[58]⟩] W (PTo g 0 W RVoid (.ok () r3))) := fun W hW => by
    have := must_any r2 [58] (by decide) W hW
    rwa [h3] at this
  have HAH : Hid (∀ W, Rdr W g r3 0 → Calls Tryd.prog 24 #[.pointer (some ⟨g, 0, none⟩)] W fun e w' => e = .returned (.agg (tokC t4).toArray) ∧ Below W.heap.size W w') := fun W hW => by
    rw [h4] at hW
    exact ahead_any W hW
  have HIS : Hid (∀ W, Rdr W g r3 0 → Calls Tryd.prog 29 #[.pointer (some ⟨g, 0, none⟩), .string ⟨#[98, 111, 111, 108]⟩] W fun e w' => e = .returned (.bool false) ∧ W = w') := fun W hW => by
    rw [h4] at hW
    have := is_any boolT W hW
    rwa [decide_eq_false h4t] at this
  have HB1 : Hid (∀ W, Rdr W g r3 0 → Calls Tryd.prog 55 #[.pointer (some ⟨g, 0, none⟩)] W (PTo g 0 W (fun _ z e => e = .returned (.int .i64 z)) (.ok lo r5))) := fun W hW => by
    have := bound_any r3 W hW
    rwa [h5] at this
  have HM3 : Hid (∀ W, Rdr W g r5 0 → Calls Tryd.prog 51 #[.pointer (some ⟨g, 0, none⟩), .string ⟨#[46, 46]⟩] W (PTo g 0 W RVoid (.ok () r6))) := fun W hW => by
    have := must_any r5 [46, 46] (by decide) W hW
    rwa [h6] at this
  have HB2 : Hid (∀ W, Rdr W g r6 0 → Calls Tryd.prog 55 #[.pointer (some ⟨g, 0, none⟩)] W fun e w' => e = Thr l c ∧ Below g W w') := fun W hW => by
    have := bound_any r6 W hW
    rwa [h7] at this
  have e4 : (t4.kind == 1) = false := by rw [beq_eq_false_iff_ne]; exact h4k
  have htc : (tokC t4).toArray = #[.int .i64 t4.kind, .string ⟨t4.text.toArray⟩, .int .i64 t4.num, .int .i64 t4.line, .int .i64 t4.col] := rfl
  rw [htc] at HAH
  have hvar : (⟨wVar.toArray⟩ : ByteArray) = ⟨#[118, 97, 114]⟩ := rfl
  rw [hvar] at HM
  clear h hwa hba hza h1 h2 h3 h4 h4k h4t h5 h6 h7 htc hlt hvar
  generalize (⟨t4.text.toArray⟩ : ByteArray) = sb4 at *
  go_enter Tryd.func33, Tryd.ntmps33
  go_upto_region 1 with (fail)
  have hwa := HWA.out
  unfold z7 at hwa
  rw [← hwa]
  clear hwa HWA
  go_wp2_with fail
  refine HM.out.mono ?_
  rintro e w1 ⟨he, hr1, hk1⟩
  have he : e = .returned (.tuple #[]) := he
  subst he
  have HN1 := Lib.hid (HN.out w1 hr1)
  have HK1 := Lib.hid hk1
  clear hr1 hk1 HM HN
  go_wp2_with fail
  refine HN1.out.mono ?_
  rintro e w2 ⟨he, hr2, hk2⟩
  have he : e = .returned (.agg #[.int .i64 nm.kind, .string ⟨nm.text.toArray⟩, .int .i64 nm.num, .int .i64 nm.line, .int .i64 nm.col]) := he
  subst he
  obtain ⟨nb, hnb⟩ : ∃ nb : ByteArray, nb = ⟨nm.text.toArray⟩ := ⟨_, rfl⟩
  rw [← hnb]
  obtain ⟨w3, hw3⟩ : ∃ w3, w3 = (w2.alloc (.cells #[.int .i64 nm.kind, .string nb, .int .i64 nm.num, .int .i64 nm.line, .int .i64 nm.col] 71)).alloc (.cells #[.string nb, .string ⟨#[]⟩, .int .i64 0, .int .i64 0, .slice none 0 0, .int .i64 nm.line, .int .i64 nm.col] 56) := ⟨_, rfl⟩
  have hb3 : Below w2.heap.size w2 w3 := by rw [hw3]; exact (below_alloc w2 _).alloc (by simp) _
  have hv3 : w3.heap[w2.heap.size + 1]? = some (.cells #[.string nb, .string ⟨#[]⟩, .int .i64 0, .int .i64 0, .slice none 0 0, .int .i64 nm.line, .int .i64 nm.col] 56 (0, 0)) := by
    rw [hw3]
    have := blk_new (w2.alloc (.cells #[.int .i64 nm.kind, .string nb, .int .i64 nm.num, .int .i64 nm.line, .int .i64 nm.col] 71)) (.cells #[.string nb, .string ⟨#[]⟩, .int .i64 0, .int .i64 0, .slice none 0 0, .int .i64 nm.line, .int .i64 nm.col] 56)
    rwa [show (w2.alloc (.cells #[.int .i64 nm.kind, .string nb, .int .i64 nm.num, .int .i64 nm.line, .int .i64 nm.col] 71)).heap.size = w2.heap.size + 1 by simp] at this
  have hg2 : g < w2.heap.size := hr2.lt
  have HM3' := Lib.hid (HM2.out w3 (hr2.below hb3))
  have HK3 : Hid (Kg g wa w3) := (HK1.out.trans' hk2).trans' (Kg.of_below hb3)
  have HV3 := Lib.hid hv3
  have HW3 := Lib.hid hw3
  clear hr2 hk2 HN1 hb3 hv3 hw3 he hnb HM2 HK1
  go_upto_region 4 with (fail)
  have hw3 := HW3.out
  rw [← hw3]
  clear hw3 HW3
  go_wp2_with fail
  refine HM3'.out.mono ?_
  rintro e w4 ⟨he, hr4, hk4⟩
  have he : e = .returned (.tuple #[]) := he
  subst he
  have HA4 := Lib.hid (HAH.out w4 hr4)
  have HR4 := Lib.hid hr4
  have HK4 := Lib.hid hk4
  have HV4 : Hid (w4.heap[w2.heap.size + 1]? = some (.cells #[.string nb, .string ⟨#[]⟩, .int .i64 0, .int .i64 0, .slice none 0 0, .int .i64 nm.line, .int .i64 nm.col] 56 (0, 0))) := (hk4.block _ (lt_of_heap HV3.out) (by omega)).trans HV3.out
  clear hr4 hk4 HM3' HAH HV3
  go_wp2_with fail
  refine HA4.out.mono ?_
  rintro e w5 ⟨rfl, hb5⟩
  obtain ⟨w6, hw6⟩ : ∃ w6, w6 = w5.alloc (.cells #[.int .i64 t4.kind, .string sb4, .int .i64 t4.num, .int .i64 t4.line, .int .i64 t4.col] 71) := ⟨_, rfl⟩
  have hb6 : Below w5.heap.size w5 w6 := by rw [hw6]; exact below_alloc _ _
  have hn6 : w6.heap[w5.heap.size]? = some (.cells #[.int .i64 t4.kind, .string sb4, .int .i64 t4.num, .int .i64 t4.line, .int .i64 t4.col] 71 (0, 0)) := by rw [hw6]; exact blk_new _ _
  have hb46 : Below w4.heap.size w4 w6 := hb5.trans (hb6.mono hb5.size)
  obtain ⟨s0, s1, s2, s3, s4⟩ := cells5 hn6
  have hr6 := HR4.out.below hb46
  have HI6 := Lib.hid (HIS.out w6 hr6)
  have HB6 := Lib.hid (HB1.out w6 hr6)
  have HV6 : Hid (w6.heap[w2.heap.size + 1]? = some (.cells #[.string nb, .string ⟨#[]⟩, .int .i64 0, .int .i64 0, .slice none 0 0, .int .i64 nm.line, .int .i64 nm.col] 56 (0, 0))) := (hb46.block _ (lt_of_heap HV4.out)).trans HV4.out
  have HK6 : Hid (Kg g wa w6) := (HK3.out.trans' HK4.out).trans' (Kg.of_below hb46)
  have HW6 := Lib.hid hw6
  clear hb5 hb6 hn6 hb46 hr6 hw6 HA4 HR4 HIS HB1 HV4 HK4 HK3
  go_upto_region 6 with (fail)
  have hw6 := HW6.out
  rw [← hw6]
  clear hw6 HW6
  go_wp2_with fail
  refine HI6.out.mono ?_
  rintro e w6' ⟨rfl, rfl⟩
  clear HI6
  go_wp2_with fail
  refine HB6.out.mono ?_
  rintro e w7 ⟨he, hr7, hk7⟩
  have he : e = .returned (.int .i64 lo) := he
  subst he
  have hv7 := (hk7.block _ (lt_of_heap HV6.out) (by omega)).trans HV6.out
  obtain ⟨v0, v1, v2, v3, v4, v5, v6⟩ := pcells7 hv7
  have uf := Lib.frozen_of_heap hv7
  have hset : Kg (w2.heap.size + 1) w7 (w7.setCell ⟨w2.heap.size + 1, 2, none⟩ (.int .i64 lo)) := kg_one 2 _
  have HR8 : Hid (Rdr (w7.setCell ⟨w2.heap.size + 1, 2, none⟩ (.int .i64 lo)) g r5 0) := hr7.high hset (by omega)
  have HG7 : Hid (g < w7.heap.size) := hr7.lt
  have HK8 : Hid (Below g w (w7.setCell ⟨w2.heap.size + 1, 2, none⟩ (.int .i64 lo))) := ((HKA.out.trans' (HK6.out.trans' hk7)).low HL.out).trans (((hset.low (lt_of_heap hv7)).mono (by omega)))
  have HM8 := Lib.hid (HM3.out _ HR8.out)
  have HZ8 : Hid (g < (w7.setCell ⟨w2.heap.size + 1, 2, none⟩ (.int .i64 lo)).heap.size) := HR8.out.lt
  clear hr7 hk7 hv7 hset HB6 HV6 HK6
  go_wp2_with fail
  refine HM8.out.mono ?_
  rintro e w9 ⟨he, hr9, hk9⟩
  have he : e = .returned (.tuple #[]) := he
  subst he
  have HB9 := Lib.hid (HB2.out w9 hr9)
  have HK9 : Hid (Below g w w9) := HK8.out.trans (hk9.low HZ8.out)
  clear hr9 hk9 HM8
  go_wp2_with fail
  refine HB9.out.mono ?_
  rintro e w10 ⟨rfl, hb⟩
  exact ⟨rfl, rfl, HK9.out.trans hb⟩
end Go.Proofs.YtmkhfcdjgdofnaaDoor
