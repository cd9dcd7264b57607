/- Package parse: a range's end; a variable whose range has no second end, in a text that begins with it. -/
import Derived.Test.YtmkhfcdjgdofnaaDoorParI
import Derived.Deep.CutBlock
namespace Go.Proofs.YtmkhfcdjgdofnaaDoor
open Go.RowKit TreM WrdM ParM

theorem field_num (a b c d e : Value) (w : World) : (Instr.field 71 (.agg #[a, b, c, d, e]) 2).run Tryd.prog w = .ok c w := by kernel_rfl
theorem field_text (a b c d e : Value) (w : World) : (Instr.field 71 (.agg #[a, b, c, d, e]) 1).run Tryd.prog w = .ok b w := by kernel_rfl
theorem tok_wf {t : Tok} {r : List Tok} (h : EndsT (t :: r)) : TokOk t := h.1
set_option maxHeartbeats 1600000 in
set_option maxRecDepth 100000 in
theorem bound_any {g o : Nat} (L : List Tok) (w : World) (h : Rdr w g L o) :
    Calls Tryd.prog 55 #[.pointer (some ⟨g, 0, none⟩)] w (PTo g o w (fun _ z e => e = .returned (.int .i64 z)) (boundR L)) := by
  have hfn := field_num
  have hlt := h.lt
  obtain ⟨t, r, rfl⟩ := ends_cons h.ends
  have HS := Lib.hid (rskip_any [45] (by decide) w h)
  have HK : Hid (∀ (L : List Tok) (W : World), Rdr W g L o → Calls Tryd.prog 77 #[.pointer (some ⟨g, 0, none⟩), .int .i64 2] W (PTo g o W RTok (kindR 2 L))) := fun L W h => rkind_any L 2 (by decide) W h
  have HH := Lib.hid h
  have HB : Hid (boundR (t :: r) = if t.text = [45] then (kindR 2 r).bind fun t r => .ok (-t.num) r else (kindR 2 (t :: r)).bind fun t r => .ok t.num r) := rfl
  have HKO : Hid (∀ (L : List Tok) (u : Tok) (r' : List Tok), EndsT L → kindR 2 L = .ok u r' → TokOk u) := fun L u r' he hk => by
    obtain ⟨t2, r2, rfl⟩ := ends_cons he
    have : (if t2.kind = 2 then Res.ok t2 r2 else .bad t2.line t2.col) = .ok u r' := hk
    split at this
    · injection this with h1 h2; rw [← h1]; exact he.1
    · cases this
  have HL := Lib.hid hlt
  clear h hlt
  generalize boundR (t :: r) = R at *
  go_enter Tryd.func55, Tryd.ntmps55
  go_wp2_with fail
  refine HS.out.mono ?_
  rintro e w1 (⟨he, rfl, hr, hk⟩ | ⟨he, rfl, rfl⟩)
  · have HK1 := Lib.hid (HK.out r w1 hr)
    have HR1 := Lib.hid hr
    have HG1 := Lib.hid hk
    have HRR : Hid (R = (kindR 2 r).bind fun t r => .ok (-t.num) r) := by unfold Hid; rw [HB.out, if_pos he]
    clear hr hk he HS HB
    go_wp2_with fail
    refine HK1.out.mono ?_
    intro e w2 hp
    rcases hkr : kindR 2 r with ⟨l, c⟩ | ⟨u, r'⟩
    · rw [hkr] at hp HRR
      obtain ⟨rfl, hb⟩ := hp
      refine ⟨rfl, ?_⟩
      show PTo _ _ _ _ _ _ _
      rw [HRR.out]
      exact ⟨rfl, (HG1.out.low HL.out).trans hb⟩
    · have hu := HKO.out r u r' HR1.out.ends hkr
      rw [hkr] at hp HRR
      obtain ⟨he, hr2, hk2⟩ := hp
      have he2 : e = .returned (.agg #[.int .i64 u.kind, .string ⟨u.text.toArray⟩, .int .i64 u.num, .int .i64 u.line, .int .i64 u.col]) := he
      subst he2
      have hn0 := hu.n0
      have hn1 := hu.n1
      have HRF : Hid (R = .ok (-u.num) r') := HRR.out
      have HR2 := Lib.hid hr2
      have HG2 := Lib.hid (HG1.out.trans' hk2)
      clear hr2 hk2 he hkr hu
      generalize (⟨u.text.toArray⟩ : ByteArray) = sb at *
      generalize u.num = z at *
      go_wp2_with fail
      go_ret
      show PTo _ _ _ _ _ _ _
      rw [HRF.out]
      exact ⟨by first | rfl | (congr 2; go_num), HR2.out, HG2.out⟩
  · have HK1 := Lib.hid (HK.out (t :: r) w HH.out)
    have HRR : Hid (R = (kindR 2 (t :: r)).bind fun t r => .ok t.num r) := by unfold Hid; rw [HB.out, if_neg he]
    clear he HS HB
    go_wp2_with fail
    refine HK1.out.mono ?_
    intro e w2 hp
    rcases hkr : kindR 2 (t :: r) with ⟨l, c⟩ | ⟨u, r'⟩
    · rw [hkr] at hp HRR
      obtain ⟨rfl, hb⟩ := hp
      refine ⟨rfl, ?_⟩
      show PTo _ _ _ _ _ _ _
      rw [HRR.out]
      exact ⟨rfl, hb⟩
    · rw [hkr] at hp HRR
      obtain ⟨he, hr2, hk2⟩ := hp
      have he2 : e = .returned (.agg #[.int .i64 u.kind, .string ⟨u.text.toArray⟩, .int .i64 u.num, .int .i64 u.line, .int .i64 u.col]) := he
      subst he2
      have HRF : Hid (R = .ok u.num r') := HRR.out
      have HR2 := Lib.hid hr2
      have HG2 := Lib.hid hk2
      clear hr2 hk2 he hkr
      generalize (⟨u.text.toArray⟩ : ByteArray) = sb at *
      go_wp2_with fail
      go_ret
      show PTo _ _ _ _ _ _ _
      rw [HRF.out]
      exact ⟨rfl, HR2.out, HG2.out⟩
end Go.Proofs.YtmkhfcdjgdofnaaDoor
