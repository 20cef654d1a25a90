/- Contracts of the desk's looking for fields and methods. -/
import Derived.Test.YtfdlljdljefkfaaGreatDoorJDk2
import Derived.Test.YtfdlljdljefkfaaGreatDoorJHi4
import Derived.Test.YtfdlljdljefkfaaGreatDoorJCk0
import Derived.Test.YtfdlljdljefkfaaGreatDoorJRd2
namespace Go.Proofs.YtfdlljdljefkfaaGreatDoor
namespace Pg
open Go.ChangeShapes Go.WideShapes Go.ChangeAt Go.RowKit St

theorem fld_at {p : Prg} {c f : Nat} {k : Cls} (h : p[c]? = some k) : fldF p (c : Int) (f : Int) = k.fields[f]? := by
  unfold fldF; rw [Int.toNat_natCast, h, Int.toNat_natCast]; rfl
theorem fld_out {p : Prg} {c : Nat} (f : Int) (h : ¬ c < p.length) : fldF p (c : Int) f = none := by
  unfold fldF; rw [Int.toNat_natCast, List.getElem?_eq_none (by omega)]; rfl

set_option maxRecDepth 100000 in
set_option maxHeartbeats 1000000 in
theorem field_at (B : Nat) (p : Prg) (hsp : SmallP p) (u W0 : World) (fs : List Nat) (w : World) (k : Nat) (pa : Option Addr) (pc : Nat) (hp : SK front B u (.slice pa p.length pc) p) (d : Dsk) (h : DeskAt u W0 fs w k (.slice pa p.length pc) d) (c f : Nat) :
    Calls Tryz.prog 84 #[.pointer (some ⟨k, 0, none⟩), .int .i64 c, .int .i64 f] w fun e w' => e = .returned (.int .i64 (fieldV p c f)) ∧ DeskAt u W0 fs w' k (.slice pa p.length pc) (d.when (fldF p c f).isSome) := by
  have HD : Hid (DeskAt u W0 fs w k (.slice pa p.length pc) d) := h
  have HP : Hid (SK front B u (.slice pa p.length pc) p) := hp
  have HSP : Hid (SmallP p) := hsp
  clear h hp hsp
  by_cases q : c < p.length
  · have HQ : Hid ((if (c : Int) < (p.length : Int) then (c : Int) else -3) = (c : Int) ∧ d.when (decide ((c : Int) < (p.length : Int))) = d) := by
      show _ ∧ _
      have : (c : Int) < (p.length : Int) := by omega
      simp [this, Dsk.when]
    obtain ⟨b, o, rfl, hBb, vf, vm, d0, d1, d2, hcv⟩ := HP.out.get q
    obtain ⟨x1, y1, rfl⟩ := hcv.1.form
    have l0 : b < u.heap.size := cell_lt d0
    have HF : Hid (SI true B u (.slice x1 p[c].fields.length y1) p[c].fields) := hcv.1
    have HFL : Hid (fldF p (c : Int) (f : Int) = p[c].fields[f]?) := fld_at (List.getElem?_eq_getElem q)
    have hsz : p[c].fields.length ≤ 1048576 := (HSP.out.2 _ (List.getElem_mem q)).1
    have hci : (c : Int) < (p.length : Int) := by omega
    have hc3 : ((c : Int) == -3) = false := by simp
    clear hcv
    generalize p[c] = C at *
    go_enter Tryz.func84, Tryz.ntmps84
    go_wp2_with fail
    refine (class_at u W0 fs w k _ p.length pc d HD.out c (by omega)).mono ?_
    rw [HQ.out.1, HQ.out.2]
    rintro e w1 ⟨rfl, sv, g, cc, ev, hd⟩
    obtain ⟨c0, _⟩ := hd.cells.g0
    have cf := (hd.below.cell l0).trans d1
    have HD1 : Hid (DeskR u W0 fs w1 k (.slice (some ⟨b, o, none⟩) p.length pc) sv g cc ev d) := hd
    have HB1 : Hid (Below u.heap.size u w1) := hd.below
    clear hd HD HQ
    go_wp2_with fail
    refine (isBelow f C.fields.length _).mono ?_
    rintro e w2 ⟨rfl, rfl⟩
    by_cases r : f < C.fields.length
    · have e1 : (decide (0 ≤ (f : Int)) && decide ((f : Int) < (C.fields.length : Int))) = true := by simp; omega
      rw [e1]
      clear e1
      have HV : Hid (fieldV p (c : Int) (f : Int) = C.fields[f] ∧ d.when (fldF p (c : Int) (f : Int)).isSome = d) := by
        show _ ∧ _
        unfold fieldV
        rw [HFL.out, List.getElem?_eq_getElem r]
        exact ⟨rfl, rfl⟩
      obtain ⟨b2, o2, rfl, _, a2⟩ := (SI.on HF.out (Keep.of HB1.out)).get r
      generalize C.fields[f] = x at *
      have a2 : w1.cell? ⟨b2, o2 + f, none⟩ = some (.int .i64 x) := by simpa [IntAt] using a2
      have hfi : (f : Int) < (C.fields.length : Int) := by omega
      clear HFL
      go_wp2
      go_ret
      rw [HV.out.1, HV.out.2]
      exact ⟨rfl, _, _, _, _, HD1.out⟩
    · have e1 : (decide (0 ≤ (f : Int)) && decide ((f : Int) < (C.fields.length : Int))) = false := by simp; omega
      rw [e1]
      clear e1
      have HV : Hid (fieldV p (c : Int) (f : Int) = -3 ∧ d.when (fldF p (c : Int) (f : Int)).isSome = d.refuse) := by
        show _ ∧ _
        unfold fieldV
        rw [HFL.out, List.getElem?_eq_none (by omega)]
        exact ⟨rfl, rfl⟩
      clear HFL
      go_wp2_with fail
      refine (refuse_at u W0 fs w1 k _ d _ ⟨_, _, _, _, HD1.out⟩).mono ?_
      rintro e w2 ⟨⟨v, rfl⟩, hd⟩
      have HD2 : Hid (DeskAt u W0 fs w2 k (.slice (some ⟨b, o, none⟩) p.length pc) d.refuse) := hd
      clear hd
      go_wp2
      go_ret
      rw [HV.out.1, HV.out.2]
      exact ⟨rfl, HD2.out⟩
  · have HQ : Hid ((if (c : Int) < (p.length : Int) then (c : Int) else -3) = -3 ∧ d.when (decide ((c : Int) < (p.length : Int))) = d.refuse) := by
      show _ ∧ _
      have : ¬ (c : Int) < (p.length : Int) := by omega
      simp [this, Dsk.when]
    have HV : Hid (fieldV p (c : Int) (f : Int) = -3 ∧ d.when (fldF p (c : Int) (f : Int)).isSome = d.refuse) := by
      show _ ∧ _
      unfold fieldV
      rw [fld_out _ q]
      exact ⟨rfl, rfl⟩
    go_enter Tryz.func84, Tryz.ntmps84
    go_wp2_with fail
    refine (class_at u W0 fs w k _ p.length pc d HD.out c (by omega)).mono ?_
    rw [HQ.out.1, HQ.out.2]
    rintro e w1 ⟨rfl, hd⟩
    have HD1 : Hid (DeskAt u W0 fs w1 k (.slice pa p.length pc) d.refuse) := hd
    clear hd HD HQ
    go_wp2
    go_ret
    rw [HV.out.1, HV.out.2]
    exact ⟨rfl, HD1.out⟩

/-- What looking for the method of a call answers. -/
def CallPost (B : Nat) (p : Prg) (c name : Int) (u W0 : World) (fs : List Nat) (k : Nat) (pv : Value) (d : Dsk) (e : Ending) (w' : World) : Prop :=
  (∃ m va vc, callF p c name = some m ∧ e = .returned (.agg #[.int .i64 m.name, va, .int .i64 m.gives, vc]) ∧ MV front B u va vc m ∧ DeskAt u W0 fs w' k pv d) ∨
  (callF p c name = none ∧ e = .returned (.agg #[.int .i64 0, .slice none 0 0, .int .i64 0, .slice none 0 0]) ∧ DeskAt u W0 fs w' k pv d.refuse)
theorem selF_cases (p : Prg) (c n : Int) : selF p c n = -1 ∨ ∃ j : Nat, selF p c n = (j : Int) ∧ ∃ k, p[j]? = some k ∧ (ownF k n).isSome = true := by
  unfold selF
  cases hf : (upL p c).find? (hasM p n) with
  | none => exact .inl rfl
  | some y =>
    have h1 := upL_mem (List.mem_of_find?_eq_some hf)
    have h2 := List.find?_some hf
    obtain ⟨j, rfl⟩ := Int.eq_ofNat_of_zero_le h1.1
    refine .inr ⟨j, rfl, ?_⟩
    unfold hasM at h2
    rw [Int.toNat_natCast] at h2
    cases hk : p[j]? with
    | none => rw [hk] at h2; cases h2
    | some k => rw [hk] at h2; exact ⟨k, rfl, h2⟩

set_option maxRecDepth 100000 in
set_option maxHeartbeats 2000000 in
theorem method_at (B : Nat) (p : Prg) (hsp : SmallP p) (h6 : p.length ≤ 6) (hsup : SupOk p p.length) (u W0 : World) (fs : List Nat) (w : World) (k : Nat) (pa : Option Addr) (pc : Nat) (hp : SK front B u (.slice pa p.length pc) p) (d : Dsk) (h : DeskAt u W0 fs w k (.slice pa p.length pc) d) (c : Nat) (name : Int) :
    Calls Tryz.prog 85 #[.pointer (some ⟨k, 0, none⟩), .int .i64 c, .int .i64 name] w fun e w' => (c < p.length ∧ CallPost B p c name u W0 fs k (.slice pa p.length pc) d e w') ∨ (¬ c < p.length ∧ e = .returned (.agg #[.int .i64 0, .slice none 0 0, .int .i64 0, .slice none 0 0]) ∧ DeskAt u W0 fs w' k (.slice pa p.length pc) d.refuse) := by
  have HSP : Hid (SmallP p) := hsp
  have HSU : Hid (SupOk p p.length) := hsup
  have HP : Hid (SK front B u (.slice pa p.length pc) p) := hp
  obtain ⟨W, hW⟩ : ∃ W, W = w.alloc (.cells #[.int .i64 0, .slice none 0 0, .int .i64 0, .slice none 0 0] 51) := ⟨_, rfl⟩
  have hwW : Below w.heap.size w W := by rw [hW]; exact (Below.refl _ _).alloc (Nat.le_refl _) _
  have R0 : Hid (Cells W w.heap.size [.int .i64 0, .slice none 0 0, .int .i64 0, .slice none 0 0]) := by rw [hW]; exact Cells.new w _ rfl _ _
  have HD : Hid (DeskAt u W0 fs W k (.slice pa p.length pc) d) := h.on hwW
  have HF : Hid (DeskAt u W (w.heap.size :: fs) W k (.slice pa p.length pc) d) := by rw [hW]; exact h.fresh _
  have HH : Hid (DeskAt u W0 fs w k (.slice pa p.length pc) d) := h
  have HN : Hid (w.heap.size ∉ fs ∧ u.heap.size ≤ w.heap.size) := ⟨h.fsLt, h.below.size⟩
  have HWB : Hid (Below w.heap.size w W) := hwW
  clear h hp hsp hsup HD hwW
  -- what is answered where there is none
  have HNO : Hid (∀ w2, DeskAt u W (w.heap.size :: fs) w2 k (.slice pa p.length pc) d.refuse → DeskAt u W0 fs ((((w2.setCell ⟨w.heap.size, 0, none⟩ (.int .i64 0)).setCell ⟨w.heap.size, 1, none⟩ (.slice none 0 0)).setCell ⟨w.heap.size, 2, none⟩ (.int .i64 0)).setCell ⟨w.heap.size, 3, none⟩ (.slice none 0 0)) k (.slice pa p.length pc) d.refuse) := by
    show ∀ w2, _
    intro w2 h2
    exact HH.out.back (gs := []) HWB.out (h2.off HN.out.1 HN.out.2 (grown_four _ _ _ _ _ _) (keeps_four _ _ _ _ _ _))
  by_cases q : c < p.length
  · have HQ : Hid ((if (c : Int) < (p.length : Int) then (c : Int) else -3) = (c : Int) ∧ d.when (decide ((c : Int) < (p.length : Int))) = d) := by
      show _ ∧ _
      have : (c : Int) < (p.length : Int) := by omega
      simp [this, Dsk.when]
    have hc3 : ((c : Int) == -3) = false := by simp
    go_enter Tryz.func85, Tryz.ntmps85
    go_wp2_with fail
    rw [← hW]
    clear hW
    refine (class_at u W (w.heap.size :: fs) W k _ p.length pc d HF.out c (by omega)).mono ?_
    rw [HQ.out.1, HQ.out.2]
    rintro e w1 ⟨rfl, hd⟩
    have HD1 : Hid (DeskAt u W (w.heap.size :: fs) w1 k (.slice pa p.length pc) d) := hd
    have hbu : Below u.heap.size u w1 := hd.below
    obtain ⟨sv, g, cc, ev, hr⟩ := hd
    obtain ⟨c0, _⟩ := hr.cells.g0
    clear hr HF HQ
    go_wp2_with fail
    refine (selectedFrom B p pa pc c name (by omega) (by omega) HSP.out h6 HSU.out w1 (SK.on HP.out (Keep.of hbu))).mono ?_
    rintro e w2 ⟨rfl, hb2⟩
    have HD2 : Hid (DeskAt u W (w.heap.size :: fs) w2 k (.slice pa p.length pc) d) := HD1.out.on hb2
    have hbu2 : Below u.heap.size u w2 := below_over hbu hb2
    clear HD1 hbu c0
    rcases selF_cases p c name with hs | ⟨j, hs, K, hK, hown⟩
    · have HC : Hid (callF p (c : Int) name = none) := by show _ = _; unfold callF; rw [hs]; rfl
      rw [hs]
      go_wp2_with fail
      refine (refuse_at u W (w.heap.size :: fs) w2 k _ d _ HD2.out).mono ?_
      rintro e w3 ⟨⟨v, rfl⟩, hd3⟩
      have HE : Hid (DeskAt u W0 fs ((((w3.setCell ⟨w.heap.size, 0, none⟩ (.int .i64 0)).setCell ⟨w.heap.size, 1, none⟩ (.slice none 0 0)).setCell ⟨w.heap.size, 2, none⟩ (.int .i64 0)).setCell ⟨w.heap.size, 3, none⟩ (.slice none 0 0)) k (.slice pa p.length pc) d.refuse) := HNO.out _ hd3
      have RA := hd3.kept (List.mem_cons_self ..) R0.out
      obtain ⟨r0, q0⟩ := RA.g0
      obtain ⟨r1, q1⟩ := RA.g1
      obtain ⟨r2, q2⟩ := RA.g2
      obtain ⟨r3, q3⟩ := RA.g3
      have R5 := (((RA.s0 (.int .i64 0)).s1 (.slice none 0 0)).s2 (.int .i64 0)).s3 (.slice none 0 0)
      obtain ⟨e0, _⟩ := R5.g0
      obtain ⟨e1, _⟩ := R5.g1
      obtain ⟨e2, _⟩ := R5.g2
      obtain ⟨e3, _⟩ := R5.g3
      clear R5 RA hd3 HNO
      go_wp2
      refine bodyPost_ret (v := .agg #[.int .i64 0, .slice none 0 0, .int .i64 0, .slice none 0 0]) (by simp [results, Tryz.results85, go_sem, e0, e1, e2, e3]) rfl ?_
      exact .inl ⟨q, .inr ⟨HC.out, rfl, HE.out⟩⟩
    · have hjl : j < p.length := (List.getElem?_eq_some_iff.1 hK).1
      have hKe : p[j] = K := (List.getElem?_eq_some_iff.1 hK).2
      obtain ⟨b, o, rfl, hBb, vf, vm, d0, d1, d2, hcv⟩ := HP.out.get hjl
      rw [hKe] at d0 hcv
      obtain ⟨x1, y1, rfl⟩ := hcv.1.form
      obtain ⟨x2, y2, rfl⟩ := hcv.2.form
      have l0 : b < u.heap.size := cell_lt d0
      have k0 := (hbu2.cell l0).trans d0
      have k1 := (hbu2.cell l0).trans d1
      have k2 := (hbu2.cell l0).trans d2
      have HM : Hid (SM front B u (.slice x2 K.meths.length y2) K.meths) := hcv.2
      have hsz : K.meths.length ≤ 1048576 := (HSP.out.2 K (by rw [← hKe]; exact List.getElem_mem hjl)).2.1
      have HC : Hid (callF p (c : Int) name = ownF K name) := by
        show _ = _
        unfold callF
        rw [hs, if_neg (by omega), Int.toNat_natCast, hK]; rfl
      have HO : Hid ((ownF K name).isSome = true) := hown
      obtain ⟨sv2, g2, cc2, ev2, hr2⟩ := HD2.out
      obtain ⟨c0, _⟩ := hr2.cells.g0
      have hji : (j : Int) < (p.length : Int) := by omega
      have hj1 : ((j : Int) == -1) = false := by simp
      rw [hs]
      clear hr2 hcv hKe hK hown hs HNO d0 d1 d2
      go_wp2_with fail
      refine (ownMethod B K x1 x2 y2 _ y1 name hsz u w2 hbu2 HM.out).mono ?_
      rintro e w3 ⟨⟨m, va, vc, hm, hmem, rfl, hmv⟩ | ⟨hno, _⟩, hb3⟩
      · have HCM : Hid (callF p (c : Int) name = some m) := by show _ = _; rw [HC.out, hm]
        obtain ⟨a1, z1, rfl⟩ := hmv.1.form
        obtain ⟨a2, z2, rfl⟩ := front.form hmv.2
        have HMV : Hid (MV front B u (.slice a1 m.args.length z1) (.slice a2 m.code.length z2) m) := hmv
        obtain ⟨V, hV⟩ : ∃ V, V = w3.alloc (.cells #[.int .i64 m.name, .slice a1 m.args.length z1, .int .i64 m.gives, .slice a2 m.code.length z2] 51) := ⟨_, rfl⟩
        have hbV : Below w2.heap.size w2 V := by rw [hV]; exact hb3.alloc hb3.size _
        have HDV : Hid (DeskAt u W (w.heap.size :: fs) V k (.slice (some ⟨b, o, none⟩) p.length pc) d) := HD2.out.on hbV
        have CV0 : Hid (Cells V w3.heap.size [.int .i64 m.name, .slice a1 m.args.length z1, .int .i64 m.gives, .slice a2 m.code.length z2]) := by rw [hV]; exact Cells.new w3 _ rfl _ _
        obtain ⟨v0, _⟩ := CV0.out.g0
        obtain ⟨v1, _⟩ := CV0.out.g1
        obtain ⟨v2, _⟩ := CV0.out.g2
        obtain ⟨v3, _⟩ := CV0.out.g3
        have RA := HDV.out.kept (List.mem_cons_self ..) R0.out
        obtain ⟨r0, q0⟩ := RA.g0
        obtain ⟨r1, q1⟩ := RA.g1
        obtain ⟨r2, q2⟩ := RA.g2
        obtain ⟨r3, q3⟩ := RA.g3
        have R5 := (((RA.s0 (.int .i64 m.name)).s1 (.slice a1 m.args.length z1)).s2 (.int .i64 m.gives)).s3 (.slice a2 m.code.length z2)
        obtain ⟨e0, _⟩ := R5.g0
        obtain ⟨e1, _⟩ := R5.g1
        obtain ⟨e2, _⟩ := R5.g2
        obtain ⟨e3, _⟩ := R5.g3
        have HE : Hid (DeskAt u W0 fs ((((V.setCell ⟨w.heap.size, 0, none⟩ (.int .i64 m.name)).setCell ⟨w.heap.size, 1, none⟩ (.slice a1 m.args.length z1)).setCell ⟨w.heap.size, 2, none⟩ (.int .i64 m.gives)).setCell ⟨w.heap.size, 3, none⟩ (.slice a2 m.code.length z2)) k (.slice (some ⟨b, o, none⟩) p.length pc) d) :=
          HH.out.back (gs := []) HWB.out (HDV.out.off HN.out.1 HN.out.2 (grown_four _ _ _ _ _ _) (keeps_four _ _ _ _ _ _))
        clear R5 RA hb3 hbV hm hmem hmv HD2
        rw [hV] at *
        go_wp2
        refine bodyPost_ret (v := .agg #[.int .i64 m.name, .slice a1 m.args.length z1, .int .i64 m.gives, .slice a2 m.code.length z2]) (by simp [results, Tryz.results85, go_sem, e0, e1, e2, e3]) rfl ?_
        exact .inl ⟨q, .inl ⟨m, _, _, HCM.out, rfl, HMV.out, HE.out⟩⟩
      · have := HO.out
        rw [hno] at this
        cases this
  · have HQ : Hid ((if (c : Int) < (p.length : Int) then (c : Int) else -3) = -3 ∧ d.when (decide ((c : Int) < (p.length : Int))) = d.refuse) := by
      show _ ∧ _
      have : ¬ (c : Int) < (p.length : Int) := by omega
      simp [this, Dsk.when]
    go_enter Tryz.func85, Tryz.ntmps85
    go_wp2_with fail
    rw [← hW]
    clear hW
    refine (class_at u W (w.heap.size :: fs) W k _ p.length pc d HF.out c (by omega)).mono ?_
    rw [HQ.out.1, HQ.out.2]
    rintro e w3 ⟨rfl, hd3⟩
    have HE : Hid (DeskAt u W0 fs ((((w3.setCell ⟨w.heap.size, 0, none⟩ (.int .i64 0)).setCell ⟨w.heap.size, 1, none⟩ (.slice none 0 0)).setCell ⟨w.heap.size, 2, none⟩ (.int .i64 0)).setCell ⟨w.heap.size, 3, none⟩ (.slice none 0 0)) k (.slice pa p.length pc) d.refuse) := HNO.out _ hd3
    have RA := hd3.kept (List.mem_cons_self ..) R0.out
    obtain ⟨r0, q0⟩ := RA.g0
    obtain ⟨r1, q1⟩ := RA.g1
    obtain ⟨r2, q2⟩ := RA.g2
    obtain ⟨r3, q3⟩ := RA.g3
    have R5 := (((RA.s0 (.int .i64 0)).s1 (.slice none 0 0)).s2 (.int .i64 0)).s3 (.slice none 0 0)
    obtain ⟨e0, _⟩ := R5.g0
    obtain ⟨e1, _⟩ := R5.g1
    obtain ⟨e2, _⟩ := R5.g2
    obtain ⟨e3, _⟩ := R5.g3
    clear R5 RA hd3 HNO HF HQ
    go_wp2
    refine bodyPost_ret (v := .agg #[.int .i64 0, .slice none 0 0, .int .i64 0, .slice none 0 0]) (by simp [results, Tryz.results85, go_sem, e0, e1, e2, e3]) rfl ?_
    exact .inr ⟨q, rfl, HE.out⟩
end Pg
end Go.Proofs.YtfdlljdljefkfaaGreatDoor

/- Kinds, as plain functions; what the program makes of a number of a kind. -/
namespace Go.Proofs.YtfdlljdljefkfaaGreatDoor
namespace Pg
open Go.ChangeShapes Go.WideShapes Go.ChangeAt Go.RowKit St

/-- The shape of a number, as the program has it. -/
def shV (t : Int) : Value :=
  if t = -1 then .iface 152 (.agg #[]) else if t = -2 then .iface 153 (.agg #[]) else if t = -3 then .iface 154 (.agg #[]) else .iface 135 (.agg #[.int .i64 t])

theorem shapeOf_at (t : Int) (w : World) :
    Calls Tryz.prog 77 #[.int .i64 t] w fun e w' => e = .returned (shV t) ∧ w = w' := by
  by_cases h1 : t = -1
  · subst h1
    go_enter Tryz.func77, Tryz.ntmps77
    go_wp2
    go_ret
    exact ⟨rfl, rfl⟩
  · by_cases h2 : t = -2
    · subst h2
      go_enter Tryz.func77, Tryz.ntmps77
      go_wp2
      go_ret
      exact ⟨rfl, rfl⟩
    · by_cases h3 : t = -3
      · subst h3
        go_enter Tryz.func77, Tryz.ntmps77
        go_wp2
        go_ret
        exact ⟨rfl, rfl⟩
      · have e1 : (t == -1) = false := by simpa using h1
        have e2 : (t == -2) = false := by simpa using h2
        have e3 : (t == -3) = false := by simpa using h3
        have HS : Hid (shV t = .iface 135 (.agg #[.int .i64 t])) := by show _ = _; simp [shV, h1, h2, h3]
        go_enter Tryz.func77, Tryz.ntmps77
        go_wp2
        go_ret
        exact ⟨by rw [HS.out]; rfl, rfl⟩
end Pg
end Go.Proofs.YtfdlljdljefkfaaGreatDoor

/- Contracts of the program's fitting and joining of shapes. -/
namespace Go.Proofs.YtfdlljdljefkfaaGreatDoor
namespace Pg
open Go.ChangeShapes Go.WideShapes Go.ChangeAt Go.RowKit St

theorem shV_int : shV (-1) = .iface 152 (.agg #[]) := rfl
theorem shV_null : shV (-2) = .iface 153 (.agg #[]) := rfl
theorem shV_none : shV (-3) = .iface 154 (.agg #[]) := rfl
theorem shV_class {t : Int} (h : 0 ≤ t) : shV t = .iface 135 (.agg #[.int .i64 t]) := by
  have h1 : ¬ t = -1 := by omega
  have h2 : ¬ t = -2 := by omega
  have h3 : ¬ t = -3 := by omega
  simp [shV, h1, h2, h3]

theorem as_int_null (v : Value) (w : World) : (Instr.typeAssert (.iface 152 v) 138 153 true).run Tryz.prog w = .ok (.tuple #[.agg #[], .bool false]) w := by kernel_rfl
theorem as_int_none (v : Value) (w : World) : (Instr.typeAssert (.iface 152 v) 138 154 true).run Tryz.prog w = .ok (.tuple #[.agg #[], .bool false]) w := by kernel_rfl
theorem as_int_class (v : Value) (w : World) : (Instr.typeAssert (.iface 152 v) 138 135 true).run Tryz.prog w = .ok (.tuple #[.agg #[.int .i64 0], .bool false]) w := by kernel_rfl
theorem as_null_null (v : Value) (w : World) : (Instr.typeAssert (.iface 153 v) 138 153 true).run Tryz.prog w = .ok (.tuple #[v, .bool true]) w := by kernel_rfl
theorem as_null_none (v : Value) (w : World) : (Instr.typeAssert (.iface 153 v) 138 154 true).run Tryz.prog w = .ok (.tuple #[.agg #[], .bool false]) w := by kernel_rfl
theorem as_null_class (v : Value) (w : World) : (Instr.typeAssert (.iface 153 v) 138 135 true).run Tryz.prog w = .ok (.tuple #[.agg #[.int .i64 0], .bool false]) w := by kernel_rfl
theorem as_none_null (v : Value) (w : World) : (Instr.typeAssert (.iface 154 v) 138 153 true).run Tryz.prog w = .ok (.tuple #[.agg #[], .bool false]) w := by kernel_rfl
theorem as_none_none (v : Value) (w : World) : (Instr.typeAssert (.iface 154 v) 138 154 true).run Tryz.prog w = .ok (.tuple #[v, .bool true]) w := by kernel_rfl
theorem as_none_class (v : Value) (w : World) : (Instr.typeAssert (.iface 154 v) 138 135 true).run Tryz.prog w = .ok (.tuple #[.agg #[.int .i64 0], .bool false]) w := by kernel_rfl
theorem as_class_null (v : Value) (w : World) : (Instr.typeAssert (.iface 135 v) 138 153 true).run Tryz.prog w = .ok (.tuple #[.agg #[], .bool false]) w := by kernel_rfl
theorem as_class_none (v : Value) (w : World) : (Instr.typeAssert (.iface 135 v) 138 154 true).run Tryz.prog w = .ok (.tuple #[.agg #[], .bool false]) w := by kernel_rfl
theorem as_class_class (v : Value) (w : World) : (Instr.typeAssert (.iface 135 v) 138 135 true).run Tryz.prog w = .ok (.tuple #[v, .bool true]) w := by kernel_rfl
attribute [local go_sem] as_int_null as_int_none as_int_class as_null_null as_null_none as_null_class as_none_null as_none_none as_none_class as_class_null as_class_none as_class_class

set_option maxRecDepth 100000 in
set_option maxHeartbeats 1000000 in
theorem fitsClass_at (B : Nat) (p : Prg) (a : Option Addr) (cap : Nat) (x c : Int) (hx0 : -3 ≤ x) (hx1 : x < (p.length : Int)) (h6 : p.length ≤ 6) (hsup : SupOk p p.length) (w : World) (hp : SK front B w (.slice a p.length cap) p) :
    Calls Tryz.prog 109 #[.agg #[.slice a p.length cap], shV x, .int .i64 c] w fun e w' => e = .returned (.bool (decide (x = -2) || (decide (0 ≤ x) && undB p x c))) ∧ Below w.heap.size w w' := by
  have HP : Hid (SK front B w (.slice a p.length cap) p) := hp
  have HSU : Hid (SupOk p p.length) := hsup
  clear hp hsup
  by_cases h0 : 0 ≤ x
  · rw [shV_class h0]
    have HR : Hid ((decide (x = -2) || (decide (0 ≤ x) && undB p x c)) = undB p x c) := by
      show _ = _
      have : ¬ x = -2 := by omega
      simp [this, h0]
    rw [HR.out]
    have hb0 : Below w.heap.size w (w.alloc (.cells #[.slice a p.length cap] 37)) := (Below.refl _ _).alloc (Nat.le_refl _) _
    have hb1 : Below w.heap.size w ((w.alloc (.cells #[.slice a p.length cap] 37)).alloc (.cells #[.int .i64 x] 135)) := hb0.alloc hb0.size _
    go_enter Tryz.func109, Tryz.ntmps109
    go_wp2_with fail
    refine (isUnder B p a cap x c (by omega) hx1 h6 HSU.out _ (SK.on HP.out (Keep.of hb1))).mono ?_
    rintro e w1 ⟨rfl, hb2⟩
    go_wp2
    go_ret
    exact ⟨rfl, below_over hb1 hb2⟩
  · have hx : x = -1 ∨ x = -2 ∨ x = -3 := by omega
    rcases hx with rfl | rfl | rfl
    · rw [shV_int]
      go_enter Tryz.func109, Tryz.ntmps109
      go_wp2
      go_ret
      exact ⟨rfl, by go_grown⟩
    · rw [shV_null]
      go_enter Tryz.func109, Tryz.ntmps109
      go_wp2
      go_ret
      exact ⟨rfl, by go_grown⟩
    · rw [shV_none]
      go_enter Tryz.func109, Tryz.ntmps109
      go_wp2
      go_ret
      exact ⟨rfl, by go_grown⟩
end Pg
end Go.Proofs.YtfdlljdljefkfaaGreatDoor
