/- Package tree: Source. -/
import Derived.Test.YtnlepdkbcjjkdaaGreatDoorTevL
namespace Go.Proofs.YtnlepdkbcjjkdaaGreatDoor
open Go.RowKit TreM WrdM

theorem join_eq : ∀ xs : List (List UInt8), Lib.join xs [44, 32] = joinC xs
  | [] => rfl
  | [a] => by rw [Lib.join_one]; rfl
  | a :: b :: r => by
    have ih := join_eq (b :: r)
    rw [joinC, ← ih]
    simp [Lib.join, List.intercalate]
theorem join_any (xs : List (List UInt8)) (A : Option Addr) (cap : Nat) (w : World) (h : SlAt w StrC 1 A xs) (h1 : 1 ≤ xs.length) (hm : xs.length ≤ cap) (h32 : xs.length ≤ 32) (hl : (joinC xs).length ≤ 140737488355328) :
    Calls Tryz.prog 21 #[.slice A xs.length cap, .string ⟨#[44, 32]⟩] w fun e w' => e = .returned (.string ⟨(joinC xs).toArray⟩) ∧ Below w.heap.size w w' := by
  rcases h with h | ⟨b, p, rfl, hb, hk⟩
  · rw [h] at h1; simp at h1
  have hj : (xs.map (fun s => (⟨s.toArray⟩ : ByteArray))).map (·.data.toList) = xs := by
    rw [List.map_map]
    conv => rhs; rw [← List.map_id xs]
    apply List.map_congr_left
    intro s _
    simp
  have := Any.strings_Join Tryz.lays156 Tryz.Builder_Extra_156 b p cap (xs.map (fun s => (⟨s.toArray⟩ : ByteArray))) ⟨#[44, 32]⟩ w (fun j x hx => by
    rw [List.getElem?_map] at hx
    cases hy : xs[j]? with
    | none => rw [hy] at hx; cases hx
    | some s =>
      rw [hy] at hx
      simp only [Option.map_some, Option.some.injEq] at hx
      obtain ⟨cs, _, hc, hs, _⟩ := hk j s hy
      have := hc 0 (.string ⟨s.toArray⟩) (by rw [hs]; rfl)
      rw [Nat.mul_one, Nat.add_zero] at this
      rw [← hx]; exact this) hb (by rw [List.length_map]; omega) (by rw [List.length_map]; exact hm) (by rw [hj]; show (Lib.join xs [44, 32]).length ≤ _; rw [join_eq]; exact hl)
  rw [hj, List.length_map] at this
  have e : Lib.join xs (⟨#[44, 32]⟩ : ByteArray).data.toList = joinC xs := join_eq xs
  rw [e] at this
  exact this
theorem eg_renum : ∀ args w, (callFunc 15 args).run Tryz.prog w = .ok (.enter 15 args) w := enters_of Tryz.func15 (by kernel_rfl) rfl
theorem eg_rvar : ∀ args w, (callFunc 17 args).run Tryz.prog w = .ok (.enter 17 args) w := enters_of Tryz.func17 (by kernel_rfl) rfl
theorem eg_rprc : ∀ args w, (callFunc 19 args).run Tryz.prog w = .ok (.enter 19 args) w := enters_of Tryz.func19 (by kernel_rfl) rfl
theorem enums_every (xs : List Enu) (A : Option Addr) (cap : Nat) (w : World) (h : SlAt w (EnuC w) 4 A xs) (hm : xs.length ≤ cap) (hc : cap ≤ 9223372036854775807) :
    Calls Tryz.prog 14 #[.slice A xs.length cap, .func (.func 15) #[] #[]] w fun e w' => e = .returned (.bool (decide (xs.length ≤ 32) && xs.all enumB)) ∧ Below w.heap.size w w' :=
  everyEnum_any _ eg_renum enumB (EnuC w) xs A cap w h hm hc fun x _ cs W hW _ hR => rightEnum_any x cs W (hR.below hW)
theorem vars_every (xs : List Dcl) (A : Option Addr) (cap : Nat) (w : World) (h : SlAt w (DclC w) 7 A xs) (hm : xs.length ≤ cap) (hc : cap ≤ 9223372036854775807) :
    Calls Tryz.prog 16 #[.slice A xs.length cap, .func (.func 17) #[] #[]] w fun e w' => e = .returned (.bool (decide (xs.length ≤ 32) && xs.all declB)) ∧ Below w.heap.size w w' :=
  everyDecl_any _ eg_rvar declB (DclC w) xs A cap w h hm hc fun x _ cs W hW _ hR => rightVar_any x cs W (hR.below hW)
theorem prcs_every (xs : List Prc) (A : Option Addr) (cap : Nat) (w : World) (h : SlAt w (PrcC w) 4 A xs) (hm : xs.length ≤ cap) (hc : cap ≤ 9223372036854775807) :
    Calls Tryz.prog 18 #[.slice A xs.length cap, .func (.func 19) #[] #[]] w fun e w' => e = .returned (.bool (decide (xs.length ≤ 32) && xs.all procB)) ∧ Below w.heap.size w w' :=
  everyProc_any _ eg_rprc procB (PrcC w) xs A cap w h hm hc fun x _ cs W hW _ hR => rightProcess_any x cs W (hR.below hW)
/-- A model as a value. -/
structure SrcC (W : World) (m : Src) (Ae : Option Addr) (ce : Nat) (Av : Option Addr) (cv : Nat) (Ap : Option Addr) (cp : Nat) : Prop where
  me : m.enums.length ≤ ce
  ce : ce ≤ 9223372036854775807
  ae : SlAt W (EnuC W) 4 Ae m.enums
  mv : m.vars.length ≤ cv
  cv : cv ≤ 9223372036854775807
  av : SlAt W (DclC W) 7 Av m.vars
  mp : m.procs.length ≤ cp
  cp : cp ≤ 9223372036854775807
  ap : SlAt W (PrcC W) 4 Ap m.procs
theorem SrcC.below {W W' : World} {m : Src} {Ae Av Ap : Option Addr} {ce cv cp : Nat} (h : SrcC W m Ae ce Av cv Ap cp) (hb : Below W.heap.size W W') : SrcC W' m Ae ce Av cv Ap cp :=
  ⟨h.me, h.ce, h.ae.below hb fun _ _ _ h => h.below hb, h.mv, h.cv, h.av.below hb fun _ _ _ h => h.below hb, h.mp, h.cp, h.ap.below hb fun _ _ _ h => h.below hb⟩
theorem cells3s {w : World} {g : Nat} {a b c : Value} {t : TypeId} {q : Nat × Nat} (h : w.heap[g]? = some (.cells #[a, b, c] t q)) :
    w.cell? ⟨g, 0, none⟩ = some a ∧ w.cell? ⟨g, 1, none⟩ = some b ∧ w.cell? ⟨g, 2, none⟩ = some c := by
  refine ⟨?_, ?_, ?_⟩ <;> (rw [Lib.cell_of_heap h]; rfl)
abbrev cS (Ae : Option Addr) (ne ce : Nat) (Av : Option Addr) (nv cv : Nat) (Ap : Option Addr) (np cp : Nat) : List Value := [.slice Ae ne ce, .slice Av nv cv, .slice Ap np cp]
theorem src_split (m : Src) : srcB m = ((decide (m.enums.length ≤ 32) && m.enums.all enumB) && ((decide (m.vars.length ≤ 32) && m.vars.all declB) && (decide (m.procs.length ≤ 32) && m.procs.all procB))) := by
  unfold srcB
  generalize m.enums.all enumB = a
  generalize m.vars.all declB = b
  generalize m.procs.all procB = c
  cases decide (m.enums.length ≤ 32) <;> cases decide (m.vars.length ≤ 32) <;> cases decide (m.procs.length ≤ 32) <;> cases a <;> cases b <;> simp
set_option maxHeartbeats 3200000 in
set_option maxRecDepth 100000 in
/-- Source, where something isn't as it should be. -/
theorem source_no (m : Src) {Ae Av Ap : Option Addr} {ce cv cp : Nat} (w : World) (h : SrcC w m Ae ce Av cv Ap cp) (hb : srcB m = false) :
    Calls Tryz.prog 6 #[.agg (cS Ae m.enums.length ce Av m.vars.length cv Ap m.procs.length cp).toArray] w fun e w' => e = .returned (.tuple #[.string ⟨#[]⟩, .int .i64 141]) ∧ Below w.heap.size w w' := by
  obtain ⟨wa, hwa⟩ : ∃ wa, wa = w.alloc (.cells (cS Ae m.enums.length ce Av m.vars.length cv Ap m.procs.length cp).toArray 26) := ⟨_, rfl⟩
  have hba : Below w.heap.size w wa := by rw [hwa]; exact below_alloc w _
  have hga : wa.heap[w.heap.size]? = some (.cells (cS Ae m.enums.length ce Av m.vars.length cv Ap m.procs.length cp).toArray 26) := by rw [hwa]; exact blk_new w _
  have hlt : w.heap.size < wa.heap.size := by rw [hwa]; simp
  have hS : ∀ W, Below wa.heap.size wa W → SrcC W m Ae ce Av cv Ap cp := fun W hW => h.below (hba.trans (hW.mono hba.size))
  have HE := Lib.hid (enums_every m.enums Ae ce wa (hS wa (Below.refl _ _)).ae h.me h.ce)
  have HV : Hid (∀ W, Below wa.heap.size wa W → Calls Tryz.prog 16 #[.slice Av m.vars.length cv, .func (.func 17) #[] #[]] W fun e w' => e = .returned (.bool (decide (m.vars.length ≤ 32) && m.vars.all declB)) ∧ Below W.heap.size W w') := fun W hW => vars_every m.vars Av cv W (hS W hW).av h.mv h.cv
  have HP : Hid (∀ W, Below wa.heap.size wa W → Calls Tryz.prog 18 #[.slice Ap m.procs.length cp, .func (.func 19) #[] #[]] W fun e w' => e = .returned (.bool (decide (m.procs.length ≤ 32) && m.procs.all procB)) ∧ Below W.heap.size W w') := fun W hW => prcs_every m.procs Ap cp W (hS W hW).ap h.mp h.cp
  have HC : Hid (∀ W, Below wa.heap.size wa W → W.heap[w.heap.size]? = some (.cells (cS Ae m.enums.length ce Av m.vars.length cv Ap m.procs.length cp).toArray 26)) := fun W hW => (hW.block _ hlt).trans hga
  rw [src_split] at hb
  have HBB := Lib.hid hb
  have HBA := Lib.hid hba
  obtain ⟨c0, c1, c2⟩ := cells3s hga
  have HWA := Lib.hid hwa
  clear hb hba hga hwa hS h
  generalize (decide (m.enums.length ≤ 32) && m.enums.all enumB) = b1 at *
  generalize (decide (m.vars.length ≤ 32) && m.vars.all declB) = b2 at *
  generalize (decide (m.procs.length ≤ 32) && m.procs.all procB) = b3 at *
  generalize m.enums.length = ne at *
  generalize m.vars.length = nv at *
  generalize m.procs.length = np at *
  go_enter Tryz.func6, Tryz.ntmps6
  go_wp2_with fail
  have hwa := HWA.out
  rw [← hwa]
  clear hwa HWA
  refine HE.out.mono ?_
  rintro x w1 ⟨rfl, hB1⟩
  have HB1 := Lib.hid hB1
  have HV1 := Lib.hid (HV.out w1 hB1)
  obtain ⟨c0, c1, c2⟩ := cells3s (HC.out w1 hB1)
  clear hB1 HE HV
  rcases b1 with _ | _
  · go_wp2_with fail
    go_ret2
    exact ⟨rfl, HBA.out.trans (HB1.out.mono HBA.out.size)⟩
  go_wp2_with fail
  refine HV1.out.mono ?_
  rintro x w2 ⟨rfl, hB2⟩
  have HB2 := Lib.hid (HB1.out.trans (hB2.mono HB1.out.size))
  have HP2 := Lib.hid (HP.out w2 HB2.out)
  obtain ⟨c0, c1, c2⟩ := cells3s (HC.out w2 HB2.out)
  clear hB2 HV1 HP
  rcases b2 with _ | _
  · go_wp2_with fail
    go_ret2
    exact ⟨rfl, HBA.out.trans (HB2.out.mono HBA.out.size)⟩
  have hb3 : b3 = false := by simpa using HBB.out
  subst hb3
  go_wp2_with (refine HP2.out.mono ?_; rintro x w3 ⟨rfl, hB3⟩)
  go_ret2
  exact ⟨rfl, HBA.out.trans ((HB2.out.trans (hB3.mono HB2.out.size)).mono HBA.out.size)⟩

set_option maxHeartbeats 3200000 in
set_option maxRecDepth 100000 in
/-- Source, where all is as it should be. -/
theorem source_yes (m : Src) {Ae Av Ap : Option Addr} {ce cv cp : Nat} (w : World) (hG : TrG w) (h : SrcC w m Ae ce Av cv Ap cp) (hb : srcB m = true) (hl : (srcT m).length ≤ 140737488355328) :
    Calls Tryz.prog 6 #[.agg (cS Ae m.enums.length ce Av m.vars.length cv Ap m.procs.length cp).toArray] w fun e w' => e = .returned (.tuple #[.string ⟨(srcT m).toArray⟩, .int .i64 0]) ∧ Below w.heap.size w w' := by
  obtain ⟨wa, hwa⟩ : ∃ wa, wa = w.alloc (.cells (cS Ae m.enums.length ce Av m.vars.length cv Ap m.procs.length cp).toArray 26) := ⟨_, rfl⟩
  have hba : Below w.heap.size w wa := by rw [hwa]; exact below_alloc w _
  have hga : wa.heap[w.heap.size]? = some (.cells (cS Ae m.enums.length ce Av m.vars.length cv Ap m.procs.length cp).toArray 26) := by rw [hwa]; exact blk_new w _
  have hlt : w.heap.size < wa.heap.size := by rw [hwa]; simp
  have hS : ∀ W, Below wa.heap.size wa W → SrcC W m Ae ce Av cv Ap cp := fun W hW => h.below (hba.trans (hW.mono hba.size))
  have hSa := hS wa (Below.refl _ _)
  have hGa : TrG wa := hG.below hba hG.n
  rw [src_split] at hb
  simp only [Bool.and_eq_true] at hb
  obtain ⟨⟨he1, he2⟩, ⟨hv1, hv2⟩, hp1, hp2⟩ := hb
  have HE : Hid (Calls Tryz.prog 14 #[.slice Ae m.enums.length ce, .func (.func 15) #[] #[]] wa fun e w' => e = .returned (.bool true) ∧ Below wa.heap.size wa w') := by
    have := enums_every m.enums Ae ce wa hSa.ae h.me h.ce
    rw [he1, he2] at this; exact this
  have HV : Hid (∀ W, Below wa.heap.size wa W → Calls Tryz.prog 16 #[.slice Av m.vars.length cv, .func (.func 17) #[] #[]] W fun e w' => e = .returned (.bool true) ∧ Below W.heap.size W w') := fun W hW => by
    have := vars_every m.vars Av cv W (hS W hW).av h.mv h.cv
    rw [hv1, hv2] at this; exact this
  have HP : Hid (∀ W, Below wa.heap.size wa W → Calls Tryz.prog 18 #[.slice Ap m.procs.length cp, .func (.func 19) #[] #[]] W fun e w' => e = .returned (.bool true) ∧ Below W.heap.size W w') := fun W hW => by
    have := prcs_every m.procs Ap cp W (hS W hW).ap h.mp h.cp
    rw [hp1, hp2] at this; exact this
  have HC : Hid (∀ W, Below wa.heap.size wa W → W.heap[w.heap.size]? = some (.cells (cS Ae m.enums.length ce Av m.vars.length cv Ap m.procs.length cp).toArray 26)) := fun W hW => (hW.block _ hlt).trans hga
  have HFC : Hid (∀ W B b l, Fr wa W B b l → W.cell? ⟨w.heap.size, 0, none⟩ = some (.slice Ae m.enums.length ce) ∧ W.cell? ⟨w.heap.size, 1, none⟩ = some (.slice Av m.vars.length cv) ∧ W.cell? ⟨w.heap.size, 2, none⟩ = some (.slice Ap m.procs.length cp)) := fun W B b l hF => cells3s ((hF.h0.block _ hlt).trans hga)
  -- the three lists
  have HAE : Hid (∀ k x, m.enums[k]? = some x → ∃ (b' p' : Nat) (Aw : Option Addr) (cw : Nat) (ll lc : Int), Ae = some ⟨b', p', none⟩ ∧ b' < wa.heap.size ∧ wa.cell? ⟨b', p' + k * 4, none⟩ = some (.string ⟨x.name.toArray⟩) ∧ wa.cell? ⟨b', p' + k * 4 + 1, none⟩ = some (.slice Aw x.values.length cw) ∧ wa.cell? ⟨b', p' + k * 4 + 2, none⟩ = some (.int .i64 ll) ∧ wa.cell? ⟨b', p' + k * 4 + 3, none⟩ = some (.int .i64 lc) ∧
      x.values.length ≤ cw ∧ SlAt wa StrC 1 Aw x.values ∧ enumB x = true) := fun k x hx => by
    rcases hSa.ae with hA | ⟨b', p', hA, hb', hk⟩
    · rw [hA] at hx; simp at hx
    · obtain ⟨cs, _, c1, v, ll, lc, rfl, _, Aw, cw, rfl, hm, hc, hv⟩ := hk k x hx
      exact ⟨b', p', Aw, cw, ll, lc, hA, hb', c1 0 _ rfl, c1 1 _ rfl, c1 2 _ rfl, c1 3 _ rfl, hm, hv, List.all_eq_true.1 he2 x (List.mem_of_getElem? hx)⟩
  have HAV : Hid (∀ k x, m.vars[k]? = some x → ∃ b' p', Av = some ⟨b', p', none⟩ ∧ b' < wa.heap.size ∧ DclP wa b' (p' + k * 7) x ∧ declB x = true) := fun k x hx => by
    rcases hSa.av with hA | ⟨b', p', hA, hb', hk⟩
    · rw [hA] at hx; simp at hx
    · obtain ⟨cs, _, c1, hy⟩ := hk k x hx
      exact ⟨b', p', hA, hb', ⟨cs, c1, hy⟩, List.all_eq_true.1 hv2 x (List.mem_of_getElem? hx)⟩
  have HAP : Hid (∀ k x, m.procs[k]? = some x → ∃ b' p', Ap = some ⟨b', p', none⟩ ∧ b' < wa.heap.size ∧ PrcP wa b' (p' + k * 4) x ∧ procB x = true) := fun k x hx => by
    rcases hSa.ap with hA | ⟨b', p', hA, hb', hk⟩
    · rw [hA] at hx; simp at hx
    · obtain ⟨cs, _, c1, hy⟩ := hk k x hx
      exact ⟨b', p', hA, hb', ⟨cs, c1, hy⟩, List.all_eq_true.1 hp2 x (List.mem_of_getElem? hx)⟩
  obtain ⟨le, hle⟩ : ∃ le, le = m.enums.flatMap enumT := ⟨_, rfl⟩
  obtain ⟨lv, hlv⟩ : ∃ lv, lv = le ++ m.vars.flatMap declT := ⟨_, rfl⟩
  have hT : srcT m = lv ++ m.procs.flatMap procT := by rw [hlv, hle]; rfl
  rw [hT] at hl ⊢
  have hlen := hl
  rw [List.length_append] at hlen
  have hlen2 : lv.length = le.length + (m.vars.flatMap declT).length := by rw [hlv, List.length_append]
  have HJE : Hid (∀ k x, m.enums[k]? = some x → (m.enums.take (k + 1)).flatMap enumT = (m.enums.take k).flatMap enumT ++ enumT x) := fun k x hx => flatMap_take _ _ k x hx
  have HJV : Hid (∀ k x, m.vars[k]? = some x → (m.vars.take (k + 1)).flatMap declT = (m.vars.take k).flatMap declT ++ declT x) := fun k x hx => flatMap_take _ _ k x hx
  have HJP : Hid (∀ k x, m.procs[k]? = some x → (m.procs.take (k + 1)).flatMap procT = (m.procs.take k).flatMap procT ++ procT x) := fun k x hx => flatMap_take _ _ k x hx
  have HLE : Hid (∀ k, ((m.enums.take k).flatMap enumT).length ≤ 140737488355328) := fun k => by have := flatMap_le enumT m.enums k; rw [← hle] at this; omega
  have HLV : Hid (∀ k, (le ++ (m.vars.take k).flatMap declT).length ≤ 140737488355328) := fun k => by have := flatMap_le declT m.vars k; rw [List.length_append]; omega
  have HLP : Hid (∀ k, (lv ++ (m.procs.take k).flatMap procT).length ≤ 140737488355328) := fun k => by have := flatMap_le procT m.procs k; rw [List.length_append]; omega
  have HNE : Hid ((m.enums.take m.enums.length).flatMap enumT = le) := by unfold Hid; rw [List.take_length, hle]
  have HNV : Hid (le ++ (m.vars.take m.vars.length).flatMap declT = lv) := by unfold Hid; rw [List.take_length, hlv]
  have HNP : Hid (lv ++ (m.procs.take m.procs.length).flatMap procT = lv ++ m.procs.flatMap procT) := by unfold Hid; rw [List.take_length]
  have HGE : Hid (∀ k, k < m.enums.length → ∃ x, m.enums[k]? = some x) := fun k hk => get_el hk
  have HGV : Hid (∀ k, k < m.vars.length → ∃ x, m.vars[k]? = some x) := fun k hk => get_el hk
  have HGP : Hid (∀ k, k < m.procs.length → ∃ x, m.procs[k]? = some x) := fun k hk => get_el hk
  have me := h.me
  have cel := h.ce
  have mv := h.mv
  have cvl := h.cv
  have mp := h.mp
  have cpl := h.cp
  have HBA := Lib.hid hba
  have HGG := Lib.hid hGa
  obtain ⟨c0, c1, c2⟩ := cells3s hga
  have HWA := Lib.hid hwa
  clear hba hga hwa hS hSa h hG hGa he1 he2 hv1 hv2 hp1 hp2 hT hl hlen hlen2 hle hlv
  generalize lv ++ m.procs.flatMap procT = lall at *
  generalize m.enums.length = ne at *
  generalize m.vars.length = nv at *
  generalize m.procs.length = np at *
  go_enter Tryz.func6, Tryz.ntmps6
  go_wp2_with fail
  have hwa := HWA.out
  rw [← hwa]
  clear hwa HWA
  refine HE.out.mono ?_
  rintro x w1 ⟨rfl, hB1⟩
  have HB1 := Lib.hid hB1
  have HV1 := Lib.hid (HV.out w1 hB1)
  obtain ⟨c0, c1, c2⟩ := cells3s (HC.out w1 hB1)
  clear hB1 HE HV
  go_wp2_with fail
  refine HV1.out.mono ?_
  rintro x w2 ⟨rfl, hB2⟩
  have HB2 := Lib.hid (HB1.out.trans (hB2.mono HB1.out.size))
  have HP2 := Lib.hid (HP.out w2 HB2.out)
  obtain ⟨c0, c1, c2⟩ := cells3s (HC.out w2 HB2.out)
  clear hB2 HV1 HP
  go_wp2_with fail
  refine HP2.out.mono ?_
  rintro x w3 ⟨rfl, hB3⟩
  have HB3 := Lib.hid (HB2.out.trans (hB3.mono HB2.out.size))
  obtain ⟨bb, hbb⟩ : ∃ bb, bb = w3.heap.size := ⟨_, rfl⟩
  have HFb : Hid (Fr wa (w3.alloc (.cells #[.pointer none, .slice none 0 0] 59)) bb bb []) := by
    have hal := below_alloc w3 (.cells #[.pointer none, .slice none 0 0] 59)
    rw [hbb]
    exact ⟨HB3.out.trans (hal.mono HB3.out.size), HB3.out.size, BldAt.fresh w3, hal.size⟩
  have HBB : Hid (wa.heap.size ≤ bb ∧ w.heap.size ≤ bb) := by
    have := HB3.out.size
    have := HBA.out.size
    rw [hbb]; exact ⟨by omega, by omega⟩
  obtain ⟨wb, hwb⟩ : ∃ wb, wb = w3.alloc (.cells #[.pointer none, .slice none 0 0] 59) := ⟨_, rfl⟩
  rw [← hwb] at HFb
  obtain ⟨c0, c1, c2⟩ := HFC.out wb _ _ _ HFb.out
  have HWB := Lib.hid hwb
  clear hB3 hwb HP2 HB2 HB1
  go_upto_region 4 with (fail)
  have hwb := HWB.out
  rw [← hwb, ← hbb]
  clear hwb HWB hbb HB3 HC
  go_wp2_with fail
  go_loopw [6, 28] (fun _ i wr => ∃ k : Nat, k ≤ ne ∧ i = .int .i64 k ∧ Hid (Fr wa wr bb bb ((m.enums.take k).flatMap enumT))) (fun _ i _ => ne - (intOf i).toNat)
  case atStart => exact ⟨0, Nat.zero_le _, rfl, by unfold Hid; simpa using HFb.out⟩
  case round =>
    clear c0 c1 c2 HFb
    obtain ⟨k, hk, rfl, HW⟩ := hrel
    by_cases hlt : k < ne
    case neg =>
      have t1 : decide ((k : Int) < (ne : Int)) = false := decide_eq_false (by omega)
      have t2 : decide (k < ne) = false := decide_eq_false hlt
      have hkm : k = ne := by omega
      have hw := HW.out
      rw [hkm, HNE.out] at hw
      have HFe := Lib.hid hw
      obtain ⟨c0, c1, c2⟩ := HFC.out wr _ _ _ hw
      clear hw HW hkm HAE HJE HLE HNE HGE
      go_wp2_with fail
      go_loopw [7, 46] (fun _ i wr => ∃ k : Nat, k ≤ nv ∧ i = .int .i64 k ∧ Hid (Fr wa wr bb bb (le ++ (m.vars.take k).flatMap declT))) (fun _ i _ => nv - (intOf i).toNat)
      case atStart => exact ⟨0, Nat.zero_le _, rfl, by unfold Hid; simpa using HFe.out⟩
      case round =>
        clear c0 c1 c2 HFe t1 t2
        obtain ⟨k, hk, rfl, HW⟩ := hrel
        by_cases hlt : k < nv
        case neg =>
          have t1 : decide ((k : Int) < (nv : Int)) = false := decide_eq_false (by omega)
          have t2 : decide (k < nv) = false := decide_eq_false hlt
          have hkm : k = nv := by omega
          have hw := HW.out
          rw [hkm, HNV.out] at hw
          have HFv := Lib.hid hw
          rename World => wr2
          obtain ⟨c0, c1, c2⟩ := HFC.out _ _ _ _ hw
          clear hw HW hkm HAV HJV HLV HNV HGV
          go_wp2_with fail
          go_loopw [8, 58] (fun _ i wr => ∃ k : Nat, k ≤ np ∧ i = .int .i64 k ∧ Hid (Fr wa wr bb bb (lv ++ (m.procs.take k).flatMap procT))) (fun _ i _ => np - (intOf i).toNat)
          case atStart => exact ⟨0, Nat.zero_le _, rfl, by unfold Hid; simpa using HFv.out⟩
          case round =>
            clear c0 c1 c2 HFv t1 t2
            obtain ⟨k, hk, rfl, HW⟩ := hrel
            by_cases hlt : k < np
            case neg =>
              have t1 : decide ((k : Int) < (np : Int)) = false := decide_eq_false (by omega)
              have t2 : decide (k < np) = false := decide_eq_false hlt
              have hkm : k = np := by omega
              have hw := HW.out
              rw [hkm, HNP.out] at hw
              have HFp := Lib.hid hw
              have HSt := Lib.hid (string_any bb bb lall _ hw.hb hw.hw)
              clear hw HW hkm
              go_wp2_with (refine HSt.out.mono ?_; rintro x w9 ⟨rfl, hB9⟩)
              go_ret2
              exact ⟨rfl, HBA.out.trans ((HFp.out.h0.trans (hB9.mono HBB.out.1)).mono HBA.out.size)⟩
            case pos =>
              have t1 : decide ((k : Int) < (np : Int)) = true := decide_eq_true (by omega)
              have t2 : decide (k < np) = true := decide_eq_true hlt
              obtain ⟨x, hx⟩ := HGP.out k hlt
              obtain ⟨b', p', rfl, hb', hex, hwr⟩ := HAP.out k x hx
              have hend : lv ++ (m.procs.take (k + 1)).flatMap procT = (lv ++ (m.procs.take k).flatMap procT) ++ procT x := by
                rw [HJP.out k x hx]; simp only [List.append_assoc]
              have HP1 := Lib.hid (writeProcess_any HW.out HGG.out x hb' hex hwr (by rw [← hend]; exact HLP.out (k + 1)))
              rw [← hend] at HP1
              obtain ⟨c0, c1, c2⟩ := HFC.out _ _ _ _ HW.out
              clear hx hex hwr hend HW
              go_wp2_with fail
              refine HP1.out.mono ?_
              rintro e w5 ⟨rfl, hF5⟩
              have HF5 := Lib.hid hF5
              clear hF5 HP1
              go_wp2_with fail
              go_roundw
              case rel => exact ⟨k + 1, by omega, by go_num, HF5.out⟩
              case measure => simp [intOf]; omega
        case pos =>
          have t1 : decide ((k : Int) < (nv : Int)) = true := decide_eq_true (by omega)
          have t2 : decide (k < nv) = true := decide_eq_true hlt
          obtain ⟨x, hx⟩ := HGV.out k hlt
          obtain ⟨b', p', rfl, hb', hex, hwr⟩ := HAV.out k x hx
          have hend : le ++ (m.vars.take (k + 1)).flatMap declT = (le ++ (m.vars.take k).flatMap declT) ++ declT x := by
            rw [HJV.out k x hx]; simp only [List.append_assoc]
          have HP1 := Lib.hid (writeVar_any HW.out HGG.out x hb' hex hwr (by rw [← hend]; exact HLV.out (k + 1)))
          rw [← hend] at HP1
          obtain ⟨c0, c1, c2⟩ := HFC.out _ _ _ _ HW.out
          clear hx hex hwr hend HW
          go_wp2_with fail
          refine HP1.out.mono ?_
          rintro e w5 ⟨rfl, hF5⟩
          have HF5 := Lib.hid hF5
          clear hF5 HP1
          go_wp2_with fail
          go_roundw
          case rel => exact ⟨k + 1, by omega, by go_num, HF5.out⟩
          case measure => simp [intOf]; omega
    case pos =>
      have t1 : decide ((k : Int) < (ne : Int)) = true := decide_eq_true (by omega)
      have t2 : decide (k < ne) = true := decide_eq_true hlt
      obtain ⟨x, hx⟩ := HGE.out k hlt
      obtain ⟨b', p', Aw, cw, ll, lc, rfl, hb', g0, g1, g2, g3, hmw, hvs, hen⟩ := HAE.out k x hx
      have hjl := HLE.out (k + 1)
      have hend := HJE.out k x hx
      rw [hend] at hjl
      unfold enumB at hen
      simp only [Bool.and_eq_true, decide_eq_true_eq] at hen
      obtain ⟨_, hn1, hn32, _⟩ := hen
      have hlx : (enumT x).length = 5 + x.name.length + 3 + (joinC x.values).length + 3 := by unfold enumT; simp only [List.length_append, List.length_cons, List.length_nil]
      rw [List.length_append, hlx] at hjl
      obtain ⟨nb, hnb⟩ : ∃ nb : ByteArray, nb = ⟨x.name.toArray⟩ := ⟨_, rfl⟩
      have hnbs : nb.size = x.name.length := by rw [hnb, size_mk]
      obtain ⟨jb, hjb⟩ : ∃ jb : ByteArray, jb = ⟨(joinC x.values).toArray⟩ := ⟨_, rfl⟩
      have hjbs : jb.size = (joinC x.values).length := by rw [hjb, size_mk]
      have z1 : ¬ 9223372036854775807 < 5 + nb.size := by omega
      have z2 : ¬ 9223372036854775807 < 5 + nb.size + 3 := by omega
      have z3 : ¬ 9223372036854775807 < 5 + nb.size + 3 + jb.size := by omega
      have z4 : ¬ 9223372036854775807 < 5 + nb.size + 3 + jb.size + 3 := by omega
      have hcat : (⟨#[101, 110, 117, 109, 32]⟩ : ByteArray) ++ nb ++ ⟨#[32, 123, 32]⟩ ++ jb ++ ⟨#[32, 125, 10]⟩ = ⟨(enumT x).toArray⟩ := by
        rw [hnb, hjb]; unfold enumT; rw [← app_mk, ← app_mk, ← app_mk, ← app_mk]
      rw [← hnb] at g0
      have hw := HW.out
      have f0 := hw.cell hb' g0
      have f1 := hw.cell hb' g1
      have f2 := hw.cell hb' g2
      have f3 := hw.cell hb' g3
      obtain ⟨wx, hwx⟩ : ∃ wx, wx = (wr.alloc (.cells #[.string nb, .slice Aw x.values.length cw, .int .i64 ll, .int .i64 lc] 48)).drew := ⟨_, rfl⟩
      have hbx : Below wr.heap.size wr wx := by rw [hwx]; exact Below.drew (below_alloc wr _)
      have hgx : wx.heap[wr.heap.size]? = some (.cells #[.string nb, .slice Aw x.values.length cw, .int .i64 ll, .int .i64 lc] 48) := by rw [hwx]; exact blk_new wr _
      have hltx : wr.heap.size < wx.heap.size := (Array.getElem?_eq_some_iff.1 hgx).1
      have HFx : Hid (Fr wa wx bb bb ((m.enums.take k).flatMap enumT)) := hw.below hbx
      have HBOX : Hid (∀ W, Below wx.heap.size wx W → W.heap[wr.heap.size]? = some (.cells #[.string nb, .slice Aw x.values.length cw, .int .i64 ll, .int .i64 lc] 48)) := fun W hW => (hW.block _ hltx).trans hgx
      have HJN : Hid (∀ W, Fr wa W bb bb ((m.enums.take k).flatMap enumT) → Calls Tryz.prog 21 #[.slice Aw x.values.length cw, .string ⟨#[44, 32]⟩] W fun e w' => e = .returned (.string jb) ∧ Below W.heap.size W w') := fun W hF => by
        rw [hjb]
        exact join_any x.values Aw cw W (hvs.below hF.h0 fun _ _ _ h => h) hn1 hmw hn32 (by omega)
      have HWS : Hid (∀ W, Fr wa W bb bb ((m.enums.take k).flatMap enumT) → Calls Tryz.prog 20 #[.pointer (some ⟨bb, 0, none⟩), .string ((⟨#[101, 110, 117, 109, 32]⟩ : ByteArray) ++ nb ++ ⟨#[32, 123, 32]⟩ ++ jb ++ ⟨#[32, 125, 10]⟩)] W fun e w' => (∃ v, e = .returned v) ∧ Fr wa w' bb bb ((m.enums.take (k + 1)).flatMap enumT)) := fun W hF => by
        rw [hend]
        exact hF.str _ _ hcat (by rw [List.length_append, hlx]; exact hjl)
      have HWX := Lib.hid hwx
      clear hx g0 g1 g2 g3 hvs hn1 hn32 hmw hlx hjl hend hnb hnbs hjb hjbs hcat hw HW hwx hbx hgx hltx
      generalize x.values.length = nw at *
      go_upto_region 7 with (fail)
      refine wp_region_any (by kernel_rfl) ?_
      change wpAny _ _ _ _ _ _ _ (World.drew _)
      have hwx := HWX.out
      rw [← hwx]
      clear hwx HWX f0 f1 f2 f3
      refine wpAny_take (i := 0) (v := ?_) rfl (by kernel_rfl) (by kernel_rfl) (by kernel_rfl) (fun _ _ _ h => h) (Or.inl ⟨by kernel_rfl, ?_⟩) ?_
      rotate_left 1
      · (intro w; go_simp <;> with_reducible rfl)
      go_simp
      refine wpAny_take (i := 4) (v := ?_) rfl (by kernel_rfl) (by kernel_rfl) (by kernel_rfl) (fun _ _ _ h => h) (Or.inl ⟨by kernel_rfl, ?_⟩) ?_
      rotate_left 1
      · (intro w; go_simp <;> with_reducible rfl)
      go_simp
      refine wpAny_ready (rs := [1, 5]) (by kernel_rfl) (by simp) ?_
      refine AllReady.cons rfl (fun K hK => ?_) ?_
      ·
        obtain ⟨q0, q1, q2, q3⟩ := cells4 (HBOX.out wx (Below.refl _ _))
        go_simp
        refine hK _ _ ?_; clear hK K
        refine wpAny_take (i := 2) (v := ?_) rfl (by kernel_rfl) (by kernel_rfl) (by kernel_rfl) (fun _ _ _ h => h) (Or.inl ⟨by kernel_rfl, ?_⟩) ?_
        rotate_left 1
        · (intro w; go_simp <;> with_reducible rfl)
        go_simp
        refine wpAny_take (i := 3) (v := ?_) rfl (by kernel_rfl) (by kernel_rfl) (by kernel_rfl) (fun _ _ _ h => h) (Or.inl ⟨by kernel_rfl, ?_⟩) ?_
        rotate_left 1
        · (intro w; go_simp <;> with_reducible rfl)
        go_simp
        refine wpAny_ready (rs := [5]) (by kernel_rfl) (by simp) ?_
        refine AllReady.cons rfl (fun K hK => ?_) ?_
        ·
          obtain ⟨q0, q1, q2, q3⟩ := cells4 (HBOX.out wx (Below.refl _ _))
          go_simp
          refine hK _ _ ?_; clear hK K
          refine wpAny_ready (rs := [6]) (by kernel_rfl) (by simp) ?_
          refine AllReady.cons rfl (fun K hK => ?_) ?_
          ·
            go_simp
            go_at_call 21
            refine (HJN.out wx HFx.out).mono ?_
            rintro e wy ⟨rfl, hBy⟩
            have HBy := Lib.hid hBy
            have HFy := Lib.hid (HFx.out.below hBy)
            clear hBy
            refine hK _ _ ?_; clear hK K
            refine wpAny_take (i := 7) (v := ?_) rfl (by kernel_rfl) (by kernel_rfl) (by kernel_rfl) (fun _ _ _ h => h) (Or.inl ⟨by kernel_rfl, ?_⟩) ?_
            rotate_left 1
            · (intro w; go_simp <;> with_reducible rfl)
            go_simp
            refine wpAny_take (i := 8) (v := ?_) rfl (by kernel_rfl) (by kernel_rfl) (by kernel_rfl) (fun _ _ _ h => h) (Or.inl ⟨by kernel_rfl, ?_⟩) ?_
            rotate_left 1
            · (intro w; go_simp <;> with_reducible rfl)
            go_simp
            refine wpAny_ready (rs := [9]) (by kernel_rfl) (by simp) ?_
            refine AllReady.cons rfl (fun K hK => ?_) ?_
            ·
              go_simp
              go_at_call 20
              refine (HWS.out wy HFy.out).mono ?_
              rintro e wz ⟨⟨v9, rfl⟩, hFz⟩
              have HFz := Lib.hid hFz
              clear hFz
              refine hK _ _ ?_; clear hK K
              refine wpAny_done (by kernel_rfl) ?_ _
              go_wp2_with fail
              go_roundw
              case rel => exact ⟨k + 1, by omega, by go_num, HFz.out⟩
              case measure => simp [intOf]; omega
            exact AllReady.nil
          exact AllReady.nil
        exact AllReady.nil
      refine AllReady.cons rfl (fun K hK => ?_) ?_
      ·
        obtain ⟨q0, q1, q2, q3⟩ := cells4 (HBOX.out wx (Below.refl _ _))
        go_simp
        refine hK _ _ ?_; clear hK K
        refine wpAny_ready (rs := [1, 6]) (by kernel_rfl) (by simp) ?_
        refine AllReady.cons rfl (fun K hK => ?_) ?_
        ·
          obtain ⟨q0, q1, q2, q3⟩ := cells4 (HBOX.out wx (Below.refl _ _))
          go_simp
          refine hK _ _ ?_; clear hK K
          refine wpAny_take (i := 2) (v := ?_) rfl (by kernel_rfl) (by kernel_rfl) (by kernel_rfl) (fun _ _ _ h => h) (Or.inl ⟨by kernel_rfl, ?_⟩) ?_
          rotate_left 1
          · (intro w; go_simp <;> with_reducible rfl)
          go_simp
          refine wpAny_take (i := 3) (v := ?_) rfl (by kernel_rfl) (by kernel_rfl) (by kernel_rfl) (fun _ _ _ h => h) (Or.inl ⟨by kernel_rfl, ?_⟩) ?_
          rotate_left 1
          · (intro w; go_simp <;> with_reducible rfl)
          go_simp
          refine wpAny_ready (rs := [6]) (by kernel_rfl) (by simp) ?_
          refine AllReady.cons rfl (fun K hK => ?_) ?_
          ·
            go_simp
            go_at_call 21
            refine (HJN.out wx HFx.out).mono ?_
            rintro e wy ⟨rfl, hBy⟩
            have HBy := Lib.hid hBy
            have HFy := Lib.hid (HFx.out.below hBy)
            clear hBy
            refine hK _ _ ?_; clear hK K
            refine wpAny_take (i := 7) (v := ?_) rfl (by kernel_rfl) (by kernel_rfl) (by kernel_rfl) (fun _ _ _ h => h) (Or.inl ⟨by kernel_rfl, ?_⟩) ?_
            rotate_left 1
            · (intro w; go_simp <;> with_reducible rfl)
            go_simp
            refine wpAny_take (i := 8) (v := ?_) rfl (by kernel_rfl) (by kernel_rfl) (by kernel_rfl) (fun _ _ _ h => h) (Or.inl ⟨by kernel_rfl, ?_⟩) ?_
            rotate_left 1
            · (intro w; go_simp <;> with_reducible rfl)
            go_simp
            refine wpAny_ready (rs := [9]) (by kernel_rfl) (by simp) ?_
            refine AllReady.cons rfl (fun K hK => ?_) ?_
            ·
              go_simp
              go_at_call 20
              refine (HWS.out wy HFy.out).mono ?_
              rintro e wz ⟨⟨v9, rfl⟩, hFz⟩
              have HFz := Lib.hid hFz
              clear hFz
              refine hK _ _ ?_; clear hK K
              refine wpAny_done (by kernel_rfl) ?_ _
              go_wp2_with fail
              go_roundw
              case rel => exact ⟨k + 1, by omega, by go_num, HFz.out⟩
              case measure => simp [intOf]; omega
            exact AllReady.nil
          exact AllReady.nil
        refine AllReady.cons rfl (fun K hK => ?_) ?_
        ·
          go_simp
          go_at_call 21
          refine (HJN.out wx HFx.out).mono ?_
          rintro e wy ⟨rfl, hBy⟩
          have HBy := Lib.hid hBy
          have HFy := Lib.hid (HFx.out.below hBy)
          clear hBy
          refine hK _ _ ?_; clear hK K
          refine wpAny_ready (rs := [1]) (by kernel_rfl) (by simp) ?_
          refine AllReady.cons rfl (fun K hK => ?_) ?_
          ·
            obtain ⟨q0, q1, q2, q3⟩ := cells4 (HBOX.out wy HBy.out)
            go_simp
            refine hK _ _ ?_; clear hK K
            refine wpAny_take (i := 2) (v := ?_) rfl (by kernel_rfl) (by kernel_rfl) (by kernel_rfl) (fun _ _ _ h => h) (Or.inl ⟨by kernel_rfl, ?_⟩) ?_
            rotate_left 1
            · (intro w; go_simp <;> with_reducible rfl)
            go_simp
            refine wpAny_take (i := 3) (v := ?_) rfl (by kernel_rfl) (by kernel_rfl) (by kernel_rfl) (fun _ _ _ h => h) (Or.inl ⟨by kernel_rfl, ?_⟩) ?_
            rotate_left 1
            · (intro w; go_simp <;> with_reducible rfl)
            go_simp
            refine wpAny_take (i := 7) (v := ?_) rfl (by kernel_rfl) (by kernel_rfl) (by kernel_rfl) (fun _ _ _ h => h) (Or.inl ⟨by kernel_rfl, ?_⟩) ?_
            rotate_left 1
            · (intro w; go_simp <;> with_reducible rfl)
            go_simp
            refine wpAny_take (i := 8) (v := ?_) rfl (by kernel_rfl) (by kernel_rfl) (by kernel_rfl) (fun _ _ _ h => h) (Or.inl ⟨by kernel_rfl, ?_⟩) ?_
            rotate_left 1
            · (intro w; go_simp <;> with_reducible rfl)
            go_simp
            refine wpAny_ready (rs := [9]) (by kernel_rfl) (by simp) ?_
            refine AllReady.cons rfl (fun K hK => ?_) ?_
            ·
              go_simp
              go_at_call 20
              refine (HWS.out wy HFy.out).mono ?_
              rintro e wz ⟨⟨v9, rfl⟩, hFz⟩
              have HFz := Lib.hid hFz
              clear hFz
              refine hK _ _ ?_; clear hK K
              refine wpAny_done (by kernel_rfl) ?_ _
              go_wp2_with fail
              go_roundw
              case rel => exact ⟨k + 1, by omega, by go_num, HFz.out⟩
              case measure => simp [intOf]; omega
            exact AllReady.nil
          exact AllReady.nil
        exact AllReady.nil
      exact AllReady.nil
end Go.Proofs.YtnlepdkbcjjkdaaGreatDoor
