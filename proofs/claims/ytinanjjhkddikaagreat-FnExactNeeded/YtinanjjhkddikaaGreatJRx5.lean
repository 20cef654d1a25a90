/- A type that is a class there, put into a list: the specification's l14Class. -/
import Derived.Test.YtinanjjhkddikaaGreatJPm2
namespace Go.Proofs.YtinanjjhkddikaaGreat
namespace Pg
open Go.ChangeShapes Go.WideShapes Go.ChangeAt Go.RowKit St Wd

def putC (p : Prg) (l : List Int) (t : Int) : List Int := if 0 ≤ t ∧ t < (p.length : Int) then putL l t else l
set_option maxRecDepth 100000 in
set_option maxHeartbeats 2000000 in
theorem l14Class_at (B0 : Nat) (p : Prg) (a : Option Addr) (cap : Nat) (l : List Int) (v : Value) (t : Int) (hl : l.length ≤ 1000) (w : World) (hB0 : B0 ≤ w.heap.size) (h : LstB B0 w v l) :
    Calls Tryz.prog 57 #[.agg #[.slice a p.length cap], v, .int .i64 t] w fun e w' => ∃ v', e = .returned v' ∧ LstB B0 w' v' (putC p l t) ∧ Below w.heap.size w w' := by
  obtain ⟨W, hW⟩ : ∃ W, W = w.alloc (.cells #[.slice a p.length cap] 30) := ⟨_, rfl⟩
  have hwW : Below w.heap.size w W := by rw [hW]; exact (Below.refl _ _).alloc (Nat.le_refl _) _
  have P0 : Hid (Cells W w.heap.size [.slice a p.length cap]) := by rw [hW]; exact Cells.new w _ rfl _ _
  obtain ⟨g, c, rfl, _, _, _, _⟩ := id h
  have HL : Hid (LstB B0 W (.slice (some ⟨g, 0, none⟩) l.length c) l) := h.on hwW
  have HC : Hid (putC p l t = if 0 ≤ t ∧ t < (p.length : Int) then putL l t else l) := rfl
  clear h
  go_enter Tryz.func57, Tryz.ntmps57
  have p0 := P0.out.g0.1
  go_upto_region 1 with fail
  rw [← hW]
  clear hW
  by_cases h0 : t < 0
  · have HE : Hid (putC p l t = l) := by show _ = _; rw [HC.out, if_neg (fun h => by omega)]
    clear HC
    go_wp2
    go_ret
    exact ⟨_, rfl, by rw [HE.out]; exact HL.out, hwW⟩
  · by_cases h1 : (p.length : Int) ≤ t
    · have HE : Hid (putC p l t = l) := by show _ = _; rw [HC.out, if_neg (fun h => by omega)]
      have hge : t ≥ (p.length : Int) := h1
      clear HC
      go_wp2
      go_ret
      exact ⟨_, rfl, by rw [HE.out]; exact HL.out, hwW⟩
    · have HE : Hid (putC p l t = putL l t) := by show _ = _; rw [HC.out, if_pos ⟨by omega, by omega⟩]
      have hge : ¬ t ≥ (p.length : Int) := h1
      clear HC
      go_wp2_with fail
      refine (l1PutB B0 l _ t hl W (Nat.le_trans hB0 hwW.size) HL.out).mono ?_
      rintro e w1 ⟨v', rfl, hv, hb⟩
      have HV : Hid (LstB B0 w1 v' (putL l t)) := hv
      have hw1 : Below w.heap.size w w1 := below_over hwW hb
      clear hv hb
      go_wp2
      go_ret
      exact ⟨_, rfl, by rw [HE.out]; exact HV.out, hw1⟩
end Pg
end Go.Proofs.YtinanjjhkddikaaGreat

/- One sweep over the classes that are needed, plainly. -/
namespace Go.Proofs.YtinanjjhkddikaaGreat
namespace Pg
open Go.ChangeShapes Go.WideShapes Go.ChangeAt Go.RowKit St Wd

structure SndN (p : Prg) (D : List Int) : Prop where
  rd : Rise D
  sd : ∀ x ∈ D, ∃ c : Nat, x = (c : Int) ∧ Nd p c
theorem SndN.put {p : Prg} {D : List Int} (h : SndN p D) {t : Nat} (ht : Nd p t) : SndN p (putL D (t : Int)) :=
  ⟨putL_rise h.rd _, fun x hx => (mem_putL.1 hx).elim (h.sd x) fun e => ⟨t, e, ht⟩⟩
theorem SndN.len {p : Prg} (hok : okP p = true) {D : List Int} (h : SndN p D) : D.length ≤ 6 := by
  have h6 := (okP_len hok).2
  refine rise_fits h.rd fun x hx => ?_
  obtain ⟨c, rfl, hn⟩ := h.sd x hx
  have := nd_there hok hn
  omega
theorem SndN.of {p : Prg} {M L : List Int} (h : SndR p M L) : SndN p M :=
  ⟨h.rm, fun x hx => by obtain ⟨c, e, hr⟩ := h.sm x hx; exact ⟨c, e, .made hr⟩⟩
structure SweN (p : Prg) (D0 D : List Int) (Q : Prop) : Prop where
  snd : SndN p D
  sub : ∀ x ∈ D0, x ∈ D
  le : D0.length ≤ D.length
  asks : D.length = D0.length → Q
theorem SweN.start {p : Prg} {D : List Int} (h : SndN p D) {Q : Prop} (hQ : Q) : SweN p D D Q := ⟨h, fun _ h => h, Nat.le_refl _, fun _ => hQ⟩
theorem SweN.weak {p : Prg} {D0 D : List Int} {Q Q' : Prop} (h : SweN p D0 D Q) (hQ : Q → Q') : SweN p D0 D Q' := ⟨h.snd, h.sub, h.le, fun e => hQ (h.asks e)⟩
theorem SweN.same {p : Prg} {D0 D : List Int} {Q : Prop} (h0 : SndN p D0) (h : SweN p D0 D Q) (e : D.length = D0.length) : D = D0 ∧ Q :=
  ⟨(rise_same h0.rd h.snd.rd h.sub (by omega)).symm, h.asks e⟩
theorem SweN.put {p : Prg} {D0 D : List Int} {Q : Prop} (h0 : SndN p D0) (h : SweN p D0 D Q) {t : Nat} (ht : Nd p t) : SweN p D0 (putL D (t : Int)) (Q ∧ (t : Int) ∈ D0) := by
  have hl := putL_ge (t : Int) D
  refine ⟨h.snd.put ht, fun x hx => mem_putL.2 (.inl (h.sub x hx)), Nat.le_trans h.le hl, fun e => ?_⟩
  have h1 := h.le
  have e2 := rise_same h0.rd (h.snd.put ht).rd (fun x hx => mem_putL.2 (.inl (h.sub x hx))) (by omega)
  exact ⟨h.asks (by omega), by rw [e2]; exact mem_putL.2 (.inr rfl)⟩
/-- A type is put where it is a class there. -/
theorem SweN.putC {p : Prg} {D0 D : List Int} {Q : Prop} (h0 : SndN p D0) (h : SweN p D0 D Q) {t : Int} (ht : 0 ≤ t → t < (p.length : Int) → Nd p t.toNat) : SweN p D0 (putC p D t) (Q ∧ (0 ≤ t → t < (p.length : Int) → t ∈ D0)) := by
  unfold Pg.putC
  split
  · rename_i hc
    obtain ⟨k, rfl⟩ := Int.eq_ofNat_of_zero_le hc.1
    have := ht hc.1 hc.2
    rw [Int.toNat_natCast] at this
    exact (h.put h0 this).weak fun q => ⟨q.1, fun _ _ => q.2⟩
  · rename_i hc
    exact h.weak fun q => ⟨q, fun h1 h2 => absurd ⟨h1, h2⟩ hc⟩
/-- The first k classes have been asked about. -/
def AskC (p : Prg) (D0 : List Int) (k : Nat) : Prop := ∀ j, j < k → ∀ (c : Nat) cl, D0[j]? = some ((c : Nat) : Int) → p[c]? = some cl → Cls1 p D0 cl
def AskT (p : Prg) (D0 : List Int) (ts : List Int) (b : Nat) : Prop := ∀ a, a < b → ∀ t, ts[a]? = some t → 0 ≤ t → t < (p.length : Int) → t ∈ D0
theorem AskT.all {p : Prg} {D0 ts : List Int} (h : AskT p D0 ts ts.length) : ∀ t ∈ ts, 0 ≤ t → t < (p.length : Int) → t ∈ D0 := fun t ht h0 h1 => by
  obtain ⟨a, ha, hat⟩ := List.getElem_of_mem ht
  exact h a ha t (by rw [List.getElem?_eq_getElem ha, hat]) h0 h1
theorem AskT.next {p : Prg} {D0 ts : List Int} {b : Nat} (h : AskT p D0 ts b) (hs : ∀ t, ts[b]? = some t → 0 ≤ t → t < (p.length : Int) → t ∈ D0) : AskT p D0 ts (b + 1) := by
  intro a ha t ht
  rcases Nat.lt_or_ge a b with h1 | h1
  · exact h a h1 t ht
  · obtain rfl : a = b := by omega
    exact hs t ht
theorem AskC.next {p : Prg} {D0 : List Int} {k c : Nat} {cl : Cls} (h : AskC p D0 k) (hk : D0[k]? = some ((c : Nat) : Int)) (hc : p[c]? = some cl) (h1 : 0 ≤ cl.super → cl.super < (p.length : Int) → cl.super ∈ D0) (h2 : AskT p D0 cl.fields cl.fields.length) : AskC p D0 (k + 1) := by
  intro j hj c' cl' hx hc'
  rcases Nat.lt_or_ge j k with h3 | h3
  · exact h j h3 c' cl' hx hc'
  · obtain rfl : j = k := by omega
    rw [hk] at hx
    injection hx with hx
    obtain rfl : c = c' := by omega
    rw [hc] at hc'
    injection hc' with hc'
    subst hc'
    exact ⟨h1, h2.all⟩
theorem SweN.ends {p : Prg} {D0 D : List Int} (h0 : SndN p D0) (h : SweN p D0 D (AskC p D0 D0.length)) (e : D.length = D0.length) : ∀ (c : Nat) cl, (c : Int) ∈ D → p[c]? = some cl → Cls1 p D cl := by
  obtain ⟨rfl, hQ⟩ := h.same h0 e
  intro c cl hc hcl
  obtain ⟨j, hj, hjc⟩ := List.getElem_of_mem hc
  exact hQ j hj c cl (by rw [List.getElem?_eq_getElem hj, hjc]) hcl
end Pg
end Go.Proofs.YtinanjjhkddikaaGreat

/- The specification's l14Closed: a list with all above its classes and all that their fields name. -/
namespace Go.Proofs.YtinanjjhkddikaaGreat
namespace Pg
open Go.ChangeShapes Go.WideShapes Go.ChangeAt Go.RowKit St Wd

theorem putC_ge (p : Prg) (l : List Int) (t : Int) : l.length ≤ (putC p l t).length := by
  unfold putC
  split
  · exact putL_ge t l
  · exact Nat.le_refl _
theorem meetR {P G : Prop} (h : P → G) (p : P) : G := h p
set_option maxRecDepth 100000 in
set_option maxHeartbeats 8000000 in
theorem l14Closed_at (Bp : Nat) (p : Prg) (bp po cap : Nat) (hok : okP p = true) (B0 : Nat) (l : List Int) (v : Value) (hS : SndN p l) (w : World) (hB0 : B0 ≤ w.heap.size) (hl : LstB B0 w v l) (hp : SK front Bp w (.slice (some ⟨bp, po, none⟩) p.length cap) p) :
    Calls Tryz.prog 58 #[.agg #[.slice (some ⟨bp, po, none⟩) p.length cap], v] w fun e w' => ∃ v' D, e = .returned v' ∧ LstB B0 w' v' D ∧ SndN p D ∧ (∀ x ∈ l, x ∈ D) ∧ (∀ (c : Nat) cl, (c : Int) ∈ D → p[c]? = some cl → Cls1 p D cl) ∧ Below w.heap.size w w' := by
  have h6 := (okP_len hok).2
  obtain ⟨W, hW⟩ : ∃ W, W = w.alloc (.cells #[.slice (some ⟨bp, po, none⟩) p.length cap] 30) := ⟨_, rfl⟩
  have hwW : Below w.heap.size w W := by rw [hW]; exact (Below.refl _ _).alloc (Nat.le_refl _) _
  have P0 : Hid (Cells W w.heap.size [.slice (some ⟨bp, po, none⟩) p.length cap]) := by rw [hW]; exact Cells.new w _ rfl _ _
  have HOK : Hid (okP p = true) := hok
  have HPR : Hid (∀ x, Below W.heap.size W x → SK front Bp x (.slice (some ⟨bp, po, none⟩) p.length cap) p ∧ Cells x w.heap.size [.slice (some ⟨bp, po, none⟩) p.length cap] ∧ Below w.heap.size w x ∧ B0 ≤ x.heap.size) := fun x hx => ⟨SK.on hp (Keep.of (below_over hwW hx)), P0.out.on hx, below_over hwW hx, by have := (below_over hwW hx).size; omega⟩
  have HL0 : Hid (LstB B0 W v l) := hl.on hwW
  have HS0 : Hid (SndN p l) := hS
  obtain ⟨g0, c0, rfl, _, _, _, _⟩ := id hl
  clear hp hok hl hS
  go_enter Tryz.func58, Tryz.ntmps58
  go_wp2
  rw [← hW]
  clear hW
  go_loopw [1] (fun s1 wr => ∃ D : List Int, Hid (SndN p D) ∧ Hid (∀ x ∈ l, x ∈ D) ∧ Hid (LstB B0 wr s1 D) ∧ lenV s1 = D.length ∧ Below W.heap.size W wr) (fun s1 _ => 6 - lenV s1)
  case atStart => exact ⟨l, HS0.out, fun _ h => h, HL0.out, rfl, Below.refl _ _⟩
  case round =>
    clear HL0 HS0
    obtain ⟨D0, hS0, hsub, hl1, hn1, hb0⟩ := hrel
    obtain ⟨g1, c1, rfl, _, _, _, _⟩ := hl1.out
    have hD6 := hS0.out.len HOK.out
    have HSW0 : Hid (SweN p D0 D0 (AskC p D0 0)) := SweN.start hS0.out fun j hj => absurd hj (Nat.not_lt_zero j)
    clear hn1
    go_wp2
    go_loopw [1, 6] (fun s1 s6 wr => ∃ (k : Nat) (D : List Int), s6 = .int .i64 (k : Int) ∧ k ≤ D.length ∧ Hid (SweN p D0 D (AskC p D0 k)) ∧ Hid (LstB B0 wr s1 D) ∧ Below W.heap.size W wr) (fun _ s6 _ => 7 - (intOf s6).toNat)
    case atStart => exact ⟨0, D0, rfl, Nat.zero_le _, HSW0.out, hl1.out, hb0⟩
    case round =>
      clear hl1 hb0 HSW0
      obtain ⟨k, D, rfl, hk, hSW, hl1, hb⟩ := hrel
      obtain ⟨g1, c1, rfl, _, _, _, hi1⟩ := hl1.out
      have I1 : Hid (IRow wr g1 0 D) := hi1
      have hD := hSW.out.snd.len HOK.out
      clear hi1
      by_cases hlt : k < D.length
      · have hki : (k : Int) < (D.length : Int) := by omega
        obtain ⟨c, hx, hnd⟩ := hSW.out.snd.sd _ (List.getElem_mem hlt)
        have hDk : D[k]? = some D[k] := List.getElem?_eq_getElem hlt
        rw [hx] at hDk
        have hcl := nd_there HOK.out hnd
        have cx := I1.out k _ hDk
        rw [Nat.zero_add] at cx
        obtain ⟨hsk, hpc, _, _⟩ := HPR.out _ hb
        have hcl2 : p[c]? = some p[c] := List.getElem?_eq_getElem hcl
        obtain ⟨b', o', he', _, vf, vm, d0, d1, d2, hcv⟩ := hsk.get hcl
        simp only [Option.some.injEq, Addr.mk.injEq, and_true] at he'
        obtain ⟨rfl, rfl⟩ := he'
        obtain ⟨z1, t1, rfl⟩ := hcv.1.form
        obtain ⟨z2, t2, rfl⟩ := hcv.2.form
        have HFL : Hid (SI true Bp wr (.slice z1 p[c].fields.length t1) p[c].fields) := hcv.1
        have hci : (c : Int) < (p.length : Int) := by omega
        have p0 := hpc.g0.1
        have l0 : bp < wr.heap.size := cell_lt d0
        have l1 : w.heap.size < wr.heap.size := cell_lt p0
        have l2 : g1 < wr.heap.size := cell_lt cx
        generalize p[c] = cl at *
        clear hsk hpc hcv hx
        go_upto_region 5 with fail
        apply meetR
        case h =>
          intro hp
          go_region_law (fail)
          all_goals exact hp
        obtain ⟨V, hV⟩ : ∃ V, V = (wr.alloc (.cells #[.int .i64 cl.super, .slice z1 cl.fields.length t1, .slice z2 cl.meths.length t2] 52)).drew := ⟨_, rfl⟩
        have hbv : Below wr.heap.size wr V := by rw [hV]; exact ((Below.refl _ _).alloc (Nat.le_refl _) _).drew
        have CV : Hid (Cells V wr.heap.size [.int .i64 cl.super, .slice z1 cl.fields.length t1, .slice z2 cl.meths.length t2]) := by
          rw [hV]
          exact (Cells.new wr _ rfl _ _).on ((Below.refl _ _).drew)
        have hl1V : Hid (LstB B0 V (.slice (some ⟨g1, 0, none⟩) D.length c1) D) := hl1.out.on hbv
        have HFV : Hid (SI true Bp V (.slice z1 cl.fields.length t1) cl.fields) := SI.on HFL.out (Keep.of hbv)
        have hbWV : Below W.heap.size W V := below_over hb hbv
        rw [← hV]
        clear hV hl1 HFL hb hbv p0 l0 l1 l2 d0 d1 d2 cx I1
        have HND : Hid (Nd p c) := hnd
        have HS1 : Hid (SweN p D0 D (AskC p D0 k ∧ D0[k]? = some ((c : Nat) : Int))) := ⟨hSW.out.snd, hSW.out.sub, hSW.out.le, fun e => by
          obtain ⟨e2, q⟩ := hSW.out.same hS0.out e
          exact ⟨q, by rw [← e2]; exact hDk⟩⟩
        have HSP := hid_of (HS1.out.putC hS0.out (t := cl.super) fun h0 h1 => Nd.sup (s := cl.super.toNat) hnd hcl2 (by omega) (by omega))
        have p0 := (HPR.out _ hbWV).2.1.g0.1
        obtain ⟨j0, _⟩ := CV.out.g0
        go_wp2_with fail
        refine (l14Class_at B0 p (some ⟨bp, po, none⟩) cap D _ cl.super (by omega) V (HPR.out _ hbWV).2.2.2 hl1V.out).mono ?_
        rintro e w5 ⟨v', rfl, hlv, hb5⟩
        have HLV : Hid (LstB B0 w5 v' (putC p D cl.super)) := hlv
        have hlen := putC_ge p D cl.super
        have hk1 : k + 1 ≤ (putC p D cl.super).length := by omega
        obtain ⟨Q1, hQ1⟩ : ∃ Q1 : Prop, Q1 = ((AskC p D0 k ∧ D0[k]? = some ((c : Nat) : Int)) ∧ (0 ≤ cl.super → cl.super < (p.length : Int) → cl.super ∈ D0)) := ⟨_, rfl⟩
        have HQ0 : Hid (SweN p D0 (putC p D cl.super) (Q1 ∧ AskT p D0 cl.fields 0)) := HSP.out.weak fun h => ⟨by rw [hQ1]; exact h, fun a ha => absurd ha (Nat.not_lt_zero a)⟩
        have HEND : Hid (∀ D2 : List Int, SweN p D0 D2 (Q1 ∧ AskT p D0 cl.fields cl.fields.length) → SweN p D0 D2 (AskC p D0 (k + 1))) := fun D2 h => h.weak fun q => by
          obtain ⟨q1, q2⟩ := q
          rw [hQ1] at q1
          exact q1.1.1.next q1.1.2 hcl2 q1.2 q2
        have HCL2 : Hid (p[c]? = some cl) := hcl2
        have hf4 : cl.fields.length ≤ 4 := okP_four HOK.out c cl hcl hcl2
        generalize putC p D cl.super = D1 at *
        have CV5 : Hid (Cells w5 wr.heap.size [.int .i64 cl.super, .slice z1 cl.fields.length t1, .slice z2 cl.meths.length t2]) := CV.out.on hb5
        have HF5 : Hid (SI true Bp w5 (.slice z1 cl.fields.length t1) cl.fields) := SI.on HFV.out (Keep.of hb5)
        have hbW5 : Below W.heap.size W w5 := below_over hbWV hb5
        obtain ⟨g1, c1, rfl, _, _, _, _⟩ := hlv
        clear hb5 hQ1 HSP HS1 hSW hl1V HFV CV hbWV p0 j0 hcl2 hlen hDk hnd hlt hki hk hcl hD
        go_wp2
        go_loopw [1, 8] (fun s1 s8 wr => ∃ (b : Nat) (D2 : List Int), s8 = .int .i64 (b : Int) ∧ b ≤ cl.fields.length ∧ k + 1 ≤ D2.length ∧ Hid (SweN p D0 D2 (Q1 ∧ AskT p D0 cl.fields b)) ∧ Hid (LstB B0 wr s1 D2) ∧ Below w5.heap.size w5 wr) (fun _ s8 _ => cl.fields.length - (intOf s8).toNat)
        case atStart => exact ⟨0, D1, rfl, Nat.zero_le _, hk1, HQ0.out, HLV.out, Below.refl _ _⟩
        case round =>
          clear HQ0 HLV hk1
          obtain ⟨b, D2, rfl, hbf, hkl, hSQ, hl2, hbx⟩ := hrel
          obtain ⟨g1, c1, rfl, _, _, _, _⟩ := hl2.out
          have hD2 := hSQ.out.snd.len HOK.out
          have hbWx : Below W.heap.size W wr := below_over hbW5 hbx
          obtain ⟨j1, _⟩ := (CV5.out.on hbx).g1
          by_cases hlt : b < cl.fields.length
          · have hbi : (b : Int) < (cl.fields.length : Int) := by omega
            obtain ⟨bf, of, rfl, _, hcf⟩ := (SI.on HF5.out (Keep.of hbx) : SI true Bp wr _ _).get hlt
            have hft : cl.fields[b]? = some cl.fields[b] := List.getElem?_eq_getElem hlt
            have hcf' : wr.cell? ⟨bf, of + b, none⟩ = some (.int .i64 cl.fields[b]) := by simpa [IntAt] using hcf
            have p0 := (HPR.out _ hbWx).2.1.g0.1
            have hb1 : b + 1 ≤ cl.fields.length := hlt
            have HB1 : Hid (b + 1 ≤ cl.fields.length) := hb1
            generalize cl.fields[b] = t at *
            have HN := hid_of ((hSQ.out.putC hS0.out (t := t) fun h0 h1 => Nd.field (t := t.toNat) HND.out HCL2.out (by rw [Int.toNat_of_nonneg h0]; exact List.mem_of_getElem? hft) (by omega)).weak fun q => (⟨q.1.1, q.1.2.next fun t' ht' h0 h1 => by rw [hft] at ht'; injection ht' with ht'; subst ht'; exact q.2 h0 h1⟩ : Q1 ∧ AskT p D0 cl.fields (b + 1)))
            have hge := putC_ge p D2 t
            have HCALL : Hid (Calls Tryz.prog 57 #[.agg #[.slice (some ⟨bp, po, none⟩) p.length cap], .slice (some ⟨g1, 0, none⟩) D2.length c1, .int .i64 t] wr.drew fun e w' => ∃ v', e = .returned v' ∧ LstB B0 w' v' (putC p D2 t) ∧ Below wr.drew.heap.size wr.drew w') :=
              l14Class_at B0 p (some ⟨bp, po, none⟩) cap D2 _ t (by omega) wr.drew (HPR.out _ hbWx).2.2.2 (hl2.out.on ((Below.refl _ _).drew))
            clear hcf hft
            go_upto_region 10 with fail
            apply meetR
            case h =>
              intro hp
              go_region_law (go_simp; go_at_call 57; refine HCALL.out.mono ?_; rintro e w6 ⟨v', rfl, hlv, hb6⟩; dsimp only)
              all_goals (revert w6 v'; exact hp)
            intro w6 v' hlv hb6
            have HLV : Hid (LstB B0 w6 v' (putC p D2 t)) := hlv
            have hb7 : Below w5.heap.size w5 w6 := below_over hbx (below_over ((Below.refl _ _).drew) hb6)
            clear hlv hb6 HCALL hSQ hl2 j1 p0 hcf' hbx hbWx
            go_wp2
            go_roundw
            case rel => exact ⟨b + 1, putC p D2 t, by go_num, HB1.out, by omega, HN.out, HLV.out, hb7⟩
            case measure =>
              have := HB1.out
              simp [intOf]; omega
          · obtain rfl : b = cl.fields.length := by omega
            have hbi : ¬ ((cl.fields.length : Nat) : Int) < ((cl.fields.length : Nat) : Int) := by omega
            have HN := hid_of (HEND.out D2 hSQ.out)
            clear hSQ HEND hlt
            go_wp2
            go_roundw
            case rel => exact ⟨k + 1, D2, by go_num, by omega, HN.out, hl2.out, hbWx⟩
            case measure => simp [intOf]; omega
      · obtain rfl : k = D.length := by omega
        have hki : ¬ ((D.length : Nat) : Int) < ((D.length : Nat) : Int) := by omega
        by_cases hsame : D.length = D0.length
        · have HE := hid_of (SweN.ends hS0.out (by have := hSW.out; rw [hsame] at this; exact this) hsame)
          have HSD : Hid (SndN p D ∧ ∀ x ∈ l, x ∈ D) := ⟨hSW.out.snd, fun x hx => hSW.out.sub x (hsub.out x hx)⟩
          have hsb : ((D.length : Int) == (D0.length : Int)) = true := by simp; omega
          clear hSW hS0 hsame
          go_wp2
          go_ret
          exact ⟨_, rfl, D, hl1.out, HSD.out.1, HSD.out.2, HE.out, (HPR.out _ hb).2.2.1⟩
        · have hsb : ((D.length : Int) == (D0.length : Int)) = false := by simp; omega
          have hle := hSW.out.le
          have HSD : Hid (SndN p D) := hSW.out.snd
          have HSU : Hid (∀ x ∈ l, x ∈ D) := fun x hx => hSW.out.sub x (hsub.out x hx)
          clear hSW hS0 hsub
          go_wp2
          go_roundw
          case rel => exact ⟨D, HSD.out, HSU.out, hl1.out, rfl, hb⟩
          case measure => simp [lenV]; omega
end Pg
end Go.Proofs.YtinanjjhkddikaaGreat
