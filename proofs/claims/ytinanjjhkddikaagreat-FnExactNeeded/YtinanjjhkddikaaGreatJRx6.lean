/- The specification's l14Needed: all that is needed. -/
import Derived.Test.YtinanjjhkddikaaGreatJRx5
import Derived.Deep.RegionHeld3
namespace Go.Proofs.YtinanjjhkddikaaGreat
namespace Pg
open Go.ChangeShapes Go.WideShapes Go.ChangeAt Go.RowKit St Wd

/-- What a reached method needs is there. -/
structure HasN (p : Prg) (D : List Int) (c : Nat) (n : Int) : Prop where
  cls : (c : Int) ∈ D
  gives : ∀ cl own, p[c]? = some cl → ownF cl n = some own → 0 ≤ own.gives → own.gives < (p.length : Int) → own.gives ∈ D
  args : ∀ cl own, p[c]? = some cl → ownF cl n = some own → ∀ t ∈ own.args, 0 ≤ t → t < (p.length : Int) → t ∈ D
  step : ∀ i, Runs p c n i → (i.1 = 15 ∨ i.1 = 16 ∨ i.1 = 17) → 0 ≤ i.2.1 → i.2.1 < (p.length : Int) → i.2.1 ∈ D
theorem HasN.up {p : Prg} {D D' : List Int} {c : Nat} {n : Int} (h : HasN p D c n) (hD : ∀ x ∈ D, x ∈ D') : HasN p D' c n :=
  ⟨hD _ h.cls, fun cl own h1 h2 h3 h4 => hD _ (h.gives cl own h1 h2 h3 h4), fun cl own h1 h2 t ht h3 h4 => hD _ (h.args cl own h1 h2 t ht h3 h4), fun i hi ho h3 h4 => hD _ (h.step i hi ho h3 h4)⟩
def AskD (p : Prg) (L D : List Int) (k : Nat) : Prop := ∀ j, j < k → ∀ (c n : Nat), n < 20 → L[j]? = some (((c * 20 + n : Nat)) : Int) → HasN p D c (n : Int)
theorem AskD.up {p : Prg} {L D D' : List Int} {k : Nat} (h : AskD p L D k) (hD : ∀ x ∈ D, x ∈ D') : AskD p L D' k := fun j hj c n hn hx => (h j hj c n hn hx).up hD
theorem SndN.putC {p : Prg} {D : List Int} (h : SndN p D) {t : Int} (ht : 0 ≤ t → t < (p.length : Int) → Nd p t.toNat) : SndN p (putC p D t) := by
  unfold Pg.putC
  split
  · rename_i hh
    have := h.put (ht hh.1 hh.2)
    rwa [show ((t.toNat : Nat) : Int) = t by omega] at this
  · exact h
theorem putC_sub {p : Prg} {D : List Int} {t x : Int} (h : x ∈ D) : x ∈ putC p D t := by
  unfold putC
  split
  · exact mem_putL.2 (.inl h)
  · exact h
theorem putC_in {p : Prg} {D : List Int} {t : Int} (h0 : 0 ≤ t) (h1 : t < (p.length : Int)) : t ∈ putC p D t := by
  unfold putC
  rw [if_pos ⟨h0, h1⟩]
  exact mem_putL.2 (.inr rfl)
theorem AskT.up {p : Prg} {D D' ts : List Int} {b : Nat} (h : AskT p D ts b) (hD : ∀ x ∈ D, x ∈ D') : AskT p D' ts b := fun a ha t ht h0 h1 => hD _ (h a ha t ht h0 h1)
def StpN (p : Prg) (D : List Int) (i : Tx.Ins) : Prop := (i.1 = 15 ∨ i.1 = 16 ∨ i.1 = 17) → 0 ≤ i.2.1 → i.2.1 < (p.length : Int) → i.2.1 ∈ D
theorem AskD.next {p : Prg} {L D : List Int} {k c n : Nat} (h : AskD p L D k) (hn : n < 20) (hx : L[k]? = some (((c * 20 + n : Nat)) : Int)) (hN : HasN p D c (n : Int)) : AskD p L D (k + 1) := fun j hj c' n' hn' hx' => by
  rcases Nat.lt_or_ge j k with h1 | h1
  · exact h j h1 c' n' hn' hx'
  · obtain rfl : j = k := by omega
    rw [hx] at hx'
    injection hx' with hx'
    obtain rfl : c = c' := by omega
    obtain rfl : n = n' := by omega
    exact hN
/-- What a stretch of puts leaves. -/
structure PutN (p : Prg) (D D' : List Int) : Prop where
  snd : SndN p D'
  sub : ∀ x ∈ D, x ∈ D'
set_option maxRecDepth 100000 in
set_option maxHeartbeats 16000000 in
theorem l14Needed_at (Bp : Nat) (p : Prg) (bp po cap : Nat) (hok : okP p = true) (hsp : SmallP p) (w : World) (hp : SK front Bp w (.slice (some ⟨bp, po, none⟩) p.length cap) p) :
    Calls Tryz.prog 34 #[.agg #[.slice (some ⟨bp, po, none⟩) p.length cap]] w fun e w' => ∃ v, e = .returned v ∧ LstB w.heap.size w' v (risL (ndB p) 6) ∧ Below w.heap.size w w' := by
  have h6 := (okP_len hok).2
  obtain ⟨W, hW⟩ : ∃ W, W = w.alloc (.cells #[.slice (some ⟨bp, po, none⟩) p.length cap] 30) := ⟨_, rfl⟩
  have hwW : Below w.heap.size w W := by rw [hW]; exact (Below.refl _ _).alloc (Nat.le_refl _) _
  have P0 : Hid (Cells W w.heap.size [.slice (some ⟨bp, po, none⟩) p.length cap]) := by rw [hW]; exact Cells.new w _ rfl _ _
  have HOK : Hid (okP p = true) := hok
  have HSP : Hid (SmallP p) := hsp
  have HPR : Hid (∀ x, Below W.heap.size W x → SK front Bp x (.slice (some ⟨bp, po, none⟩) p.length cap) p ∧ Cells x w.heap.size [.slice (some ⟨bp, po, none⟩) p.length cap] ∧ Below w.heap.size w x ∧ w.heap.size ≤ x.heap.size) := fun x hx => ⟨SK.on hp (Keep.of (below_over hwW hx)), P0.out.on hx, below_over hwW hx, (below_over hwW hx).size⟩
  have hre := l14Reach_at Bp p bp po cap hok hsp W (SK.on hp (Keep.of hwW))
  have p0 : (w.alloc (.cells #[.slice (some ⟨bp, po, none⟩) p.length cap] 30)).cell? ⟨w.heap.size, 0, none⟩ = some (.slice (some ⟨bp, po, none⟩) p.length cap) := by rw [← hW]; exact P0.out.g0.1
  clear hp hok hsp
  go_enter Tryz.func34, Tryz.ntmps34
  go_wp2_with fail
  rw [← hW]
  clear hW p0
  refine hre.mono ?_
  rintro e w1 ⟨v1, v2, rfl, hv1, hv2, hb1⟩
  have HM0 : Hid (LstB w.heap.size w1 v1 (risL (madB p) 6)) := by
    obtain ⟨g, c, e, h1, h2, h3, h4⟩ := hv1
    exact ⟨g, c, e, h1, Nat.le_trans hwW.size h2, h3, h4⟩
  obtain ⟨gL, cL, rfl, _, _, hgL, hiL⟩ := hv2
  have HIL : Hid (IRow w1 gL 0 (risL (livB p) 120)) := hiL
  have HLV : Hid (∀ (j : Nat) x, (risL (livB p) 120)[j]? = some x → ∃ c n : Nat, x = ((c * 20 + n : Nat) : Int) ∧ n < 20 ∧ Rd p true c (n : Int)) := fun j x hx => by
    obtain ⟨q, _, hq, rfl⟩ := risL_mem.1 (List.mem_of_getElem? hx)
    exact ⟨q / 20, q % 20, by omega, by omega, livB_iff.1 hq⟩
  have HSN0 : Hid (SndN p (risL (madB p) 6)) := ⟨risL_rise _ _, fun x hx => by obtain ⟨c, _, hc, rfl⟩ := risL_mem.1 hx; exact ⟨c, rfl, .made (madB_iff.1 hc)⟩⟩
  have HMD : Hid (∀ c : Nat, Rd p false c 0 → (c : Int) ∈ risL (madB p) 6) := fun c hc => risL_mem.2 ⟨c, by have := (rd_there HOK.out hc).1 rfl; omega, madB_iff.2 hc, rfl⟩
  have HLD : Hid (∀ (c : Nat) n, Rd p true c n → ∃ (m j : Nat), n = (m : Int) ∧ m < 20 ∧ (risL (livB p) 120)[j]? = some (((c * 20 + m : Nat)) : Int)) := fun c n hr => by
    have hn := rd_name HOK.out hr
    obtain ⟨m, rfl⟩ := Int.eq_ofNat_of_zero_le hn.1
    obtain ⟨cl, own, hc, _⟩ := (rd_there HOK.out hr).2 rfl
    have hcl := (List.getElem?_eq_some_iff.1 hc).1
    have hmem : ((c * 20 + m : Nat) : Int) ∈ risL (livB p) 120 := risL_mem.2 ⟨c * 20 + m, by omega, livB_iff.2 (by rw [show (c * 20 + m) / 20 = c by omega, show (c * 20 + m) % 20 = m by omega]; exact hr), rfl⟩
    obtain ⟨j, hj, hje⟩ := List.getElem_of_mem hmem
    exact ⟨m, j, rfl, by omega, by rw [List.getElem?_eq_getElem hj, hje]⟩
  have hL120 : (risL (livB p) 120).length ≤ 120 := risL_len _ _
  have hbW1 : Below W.heap.size W w1 := hb1
  clear hre hv1 hiL hb1
  generalize risL (livB p) 120 = L at *
  generalize risL (madB p) 6 = M at *
  go_wp2
  go_loopw [5, 6] (fun s5 s6 wr => ∃ (k : Nat) (D : List Int), s6 = .int .i64 (k : Int) ∧ k ≤ L.length ∧ Hid (PutN p M D) ∧ Hid (AskD p L D k) ∧ Hid (LstB w.heap.size wr s5 D) ∧ Below w1.heap.size w1 wr) (fun _ s6 _ => L.length - (intOf s6).toNat)
  case atStart => exact ⟨0, M, rfl, Nat.zero_le _, ⟨HSN0.out, fun _ h => h⟩, fun j hj => absurd hj (Nat.not_lt_zero j), HM0.out, Below.refl _ _⟩
  case round =>
    clear HM0
    obtain ⟨k, D, rfl, hk, hPN, hAD, hl5, hb⟩ := hrel
    have hbW : Below W.heap.size W wr := below_over hbW1 hb
    by_cases hlt : k < L.length
    · have hki : (k : Int) < (L.length : Int) := by omega
      have hLk : L[k]? = some L[k] := List.getElem?_eq_getElem hlt
      obtain ⟨c, n, hx, hn20, hrd⟩ := HLV.out k _ hLk
      rw [hx] at hLk
      have cx := (HIL.out.on hb) k _ hLk
      rw [Nat.zero_add] at cx
      obtain ⟨cl, own, hcl2, hown⟩ := (rd_there HOK.out hrd).2 rfl
      have hcl := (List.getElem?_eq_some_iff.1 hcl2).1
      have hcls : p[c] = cl := (List.getElem?_eq_some_iff.1 hcl2).2
      have hq1 : (((c * 20 + n : Nat)) : Int).tdiv 20 = (c : Int) := by
        rw [show ((20 : Int)) = ((20 : Nat) : Int) from rfl, ← Int.ofNat_tdiv]
        congr 1; omega
      have hq2 : (((c * 20 + n : Nat)) : Int).tmod 20 = (n : Int) := by
        rw [show ((20 : Int)) = ((20 : Nat) : Int) from rfl, ← Int.ofNat_tmod]
        congr 1; omega
      have HLK : Hid (L[k]? = some (((c * 20 + n : Nat)) : Int)) := hLk
      have hxb : c * 20 + n < 120 := by omega
      generalize hxx : c * 20 + n = xx at *
      have HXX : Hid (c * 20 + n = xx) := hxx
      have hD := hPN.out.snd.len HOK.out
      have hnc : Hid (Nd p c) := .live hrd
      have hput := l1PutB w.heap.size D _ (c : Int) (by omega) wr (HPR.out _ hbW).2.2.2 hl5.out
      clear hx hxx hLk
      go_wp2_with fail
      refine hput.mono ?_
      rintro e w2 ⟨v2, rfl, hlv2, hb2⟩
      have HLV2 : Hid (LstB w.heap.size w2 v2 (putL D (c : Int))) := hlv2
      have HPN2 : Hid (PutN p M (putL D (c : Int))) := ⟨hPN.out.snd.put hnc.out, fun x hx => mem_putL.2 (.inl (hPN.out.sub x hx))⟩
      have HAD2 : Hid (AskD p L (putL D (c : Int)) k) := hAD.out.up fun x hx => mem_putL.2 (.inl hx)
      have HC2 : Hid ((c : Int) ∈ putL D (c : Int)) := mem_putL.2 (.inr rfl)
      have hbW2 : Below W.heap.size W w2 := below_over hbW hb2
      have hb12 : Below w1.heap.size w1 w2 := below_over hb hb2
      have cx2 := (HIL.out.on hb12) k _ HLK.out
      rw [Nat.zero_add] at cx2
      clear hput hlv2 hb2 hl5 hPN hAD cx hb hbW
      generalize putL D (c : Int) = D2 at *
      obtain ⟨hsk, hpc, _, _⟩ := HPR.out _ hbW2
      obtain ⟨b', o', he', _, vf, vm, d0, d1, d2, hcv⟩ := hsk.get hcl
      simp only [Option.some.injEq, Addr.mk.injEq, and_true] at he'
      obtain ⟨rfl, rfl⟩ := he'
      rw [hcls] at d0 hcv
      obtain ⟨z1, t1, rfl⟩ := hcv.1.form
      obtain ⟨z2, t2, rfl⟩ := hcv.2.form
      have hsc := HSP.out.2 _ (List.getElem_mem hcl)
      rw [hcls] at hsc
      have hsl := hsc.2.1
      obtain ⟨jm, mm, hjm, hjmm, hoi, hoo⟩ : ∃ jm mm, jm < cl.meths.length ∧ cl.meths[jm]? = some mm ∧ ownI cl (n : Int) = (jm : Int) ∧ ownF cl (n : Int) = some mm := by
        rcases ownI_cases cl (n : Int) with ⟨_, h⟩ | h
        · rw [hown] at h; simp at h
        · exact h
      obtain rfl : mm = own := by rw [hown] at hoo; exact (Option.some.inj hoo).symm
      have hmeq : cl.meths[jm] = mm := by have := List.getElem?_eq_getElem hjm; rw [hjmm] at this; exact (Option.some.inj this).symm
      obtain ⟨b2, o2, rfl, _, va, vc, m0, m1, m2, m3, hmv⟩ := hcv.2.get hjm
      rw [hmeq] at m0 m2 hmv
      obtain ⟨za, ta, rfl⟩ := hmv.1.form
      obtain ⟨gc, cc, rfl, _, hgc, hrow, _⟩ := hmv.2
      have HRW : Hid (Row w2 gc 0 mm.code) := hrow
      have HARG : Hid (SI true Bp w2 (.slice za mm.args.length ta) mm.args) := hmv.1
      have HCD : Hid (Lay.codeOk mm.code = true) := own_code HOK.out hcl2 hown
      have hal : mm.args.length ≤ 1048576 := (hsc.2.2 mm (List.mem_of_getElem? hjmm)).1
      have HSM : Hid (SM front Bp w2 (.slice (some ⟨b2, o2, none⟩) cl.meths.length t2) cl.meths) := hcv.2
      have hcall := fun u (hu : Below w2.heap.size w2 u) => l4Own Bp cl z1 (some ⟨b2, o2, none⟩) t2 cl.fields.length t1 (n : Int) hsl u (SM.on HSM.out (Keep.of hu))
      rw [hoi] at hcall
      have hci : (c : Int) < (p.length : Int) := by omega
      have hjmi : (jm : Int) < (cl.meths.length : Int) := by omega
      have pc0 := hpc.g0.1
      have HK : Hid (∀ X, Below w2.heap.size w2 X → Below w2.heap.size w2 X ∧ X.cell? ⟨w.heap.size, 0, none⟩ = some (.slice (some ⟨bp, po, none⟩) p.length cap) ∧ X.cell? ⟨bp, po + c * 3, none⟩ = some (.int .i64 cl.super) ∧ X.cell? ⟨bp, po + c * 3 + 1, none⟩ = some (.slice z1 cl.fields.length t1) ∧ X.cell? ⟨bp, po + c * 3 + 2, none⟩ = some (.slice (some ⟨b2, o2, none⟩) cl.meths.length t2) ∧ X.cell? ⟨gL, k, none⟩ = some (.int .i64 ((xx : Nat) : Int)) ∧ X.cell? ⟨b2, o2 + jm * 4, none⟩ = some (.int .i64 mm.name) ∧ X.cell? ⟨b2, o2 + jm * 4 + 1, none⟩ = some (.slice za mm.args.length ta) ∧ X.cell? ⟨b2, o2 + jm * 4 + 2, none⟩ = some (.int .i64 mm.gives) ∧ X.cell? ⟨b2, o2 + jm * 4 + 3, none⟩ = some (.slice (some ⟨gc, 0, none⟩) mm.code.length cc)) := fun X hX =>
        ⟨hX, (hX.cell (cell_lt pc0)).trans pc0, (hX.cell (cell_lt d0)).trans d0, (hX.cell (cell_lt d1)).trans d1, (hX.cell (cell_lt d2)).trans d2, (hX.cell (cell_lt cx2)).trans cx2, (hX.cell (cell_lt m0)).trans m0, (hX.cell (cell_lt m1)).trans m1, (hX.cell (cell_lt m2)).trans m2, (hX.cell (cell_lt m3)).trans m3⟩
      have KD := HK.out _ (Below.refl w2.heap.size w2).drew
      have KA := fun (l : Array Value) (t : TypeId) => HK.out (w2.alloc (.cells l t)).drew ((Below.refl w2.heap.size w2).alloc (Nat.le_refl _) _).drew
      clear hcv hmv hsk hrow hsc m0 m1 m2 m3 d0 d1 d2 hoo hoi HSM cx2 pc0 hpc
      go_upto_region 8 with fail
      go_region_held3 (fun X => Below w2.heap.size w2 X ∧ X.cell? ⟨w.heap.size, 0, none⟩ = some (.slice (some ⟨bp, po, none⟩) p.length cap) ∧ X.cell? ⟨bp, po + c * 3, none⟩ = some (.int .i64 cl.super) ∧ X.cell? ⟨bp, po + c * 3 + 1, none⟩ = some (.slice z1 cl.fields.length t1) ∧ X.cell? ⟨bp, po + c * 3 + 2, none⟩ = some (.slice (some ⟨b2, o2, none⟩) cl.meths.length t2) ∧ X.cell? ⟨gL, k, none⟩ = some (.int .i64 ((xx : Nat) : Int)) ∧ X.cell? ⟨b2, o2 + jm * 4, none⟩ = some (.int .i64 mm.name) ∧ X.cell? ⟨b2, o2 + jm * 4 + 1, none⟩ = some (.slice za mm.args.length ta) ∧ X.cell? ⟨b2, o2 + jm * 4 + 2, none⟩ = some (.int .i64 mm.gives) ∧ X.cell? ⟨b2, o2 + jm * 4 + 3, none⟩ = some (.slice (some ⟨gc, 0, none⟩) mm.code.length cc))
        (first | exact KD | exact KA _ _ | assumption | exact KAO.out _ _ | exact KSO.out _ _ _ _)
        (first
          | (go_at_call 42; refine (hcall _ KD.1).mono ?_; rintro e wO ⟨rfl, hbO⟩; have HBO := hid_of (below_over KD.1 hbO); have KO := HK.out _ HBO.out; have KAO := hid_of (fun (l : Array Value) (t : TypeId) => HK.out (wO.alloc (.cells l t)) (HBO.out.alloc HBO.out.size _)); have HCB := hid_of (Or.inl rfl : wO = wO ∨ Cells wO w2.heap.size [.int .i64 0, .slice none 0 0, .int .i64 0, .slice none 0 0]); have KSO := hid_of (fun (x0 x1 x2 x3 : Value) => KD))
          | (go_at_call 42; refine (hcall _ (KA #[.int .i64 0, .slice none 0 0, .int .i64 0, .slice none 0 0] 55).1).mono ?_; rintro e wO ⟨rfl, hbO⟩; have HBO := hid_of (below_over (KA #[.int .i64 0, .slice none 0 0, .int .i64 0, .slice none 0 0] 55).1 hbO); have KO := HK.out _ HBO.out; have HCX : Hid (Cells wO w2.heap.size [.int .i64 0, .slice none 0 0, .int .i64 0, .slice none 0 0]) := Cells.on (Cells.new w2 _ rfl [.int .i64 0, .slice none 0 0, .int .i64 0, .slice none 0 0] 55) (below_over (Below.refl _ _).drew hbO); obtain ⟨e0, f0⟩ := HCX.out.g0; obtain ⟨e1, f1⟩ := HCX.out.g1; obtain ⟨e2, f2⟩ := HCX.out.g2; obtain ⟨e3, f3⟩ := HCX.out.g3; have HCB : Hid (wO = wO ∨ Cells wO w2.heap.size [.int .i64 0, .slice none 0 0, .int .i64 0, .slice none 0 0]) := Or.inr HCX.out; have KAO := hid_of (fun (l : Array Value) (t : TypeId) => KA l t); have KSO := hid_of (fun (x0 x1 x2 x3 : Value) => HK.out ((((wO.setCell ⟨w2.heap.size, 0, none⟩ x0).setCell ⟨w2.heap.size, 1, none⟩ x1).setCell ⟨w2.heap.size, 2, none⟩ x2).setCell ⟨w2.heap.size, 3, none⟩ x3) ((((HBO.out.setCell (p := ⟨w2.heap.size, 0, none⟩) (Nat.le_refl _) _).setCell (p := ⟨w2.heap.size, 1, none⟩) (Nat.le_refl _) _).setCell (p := ⟨w2.heap.size, 2, none⟩) (Nat.le_refl _) _).setCell (p := ⟨w2.heap.size, 3, none⟩) (Nat.le_refl _) _))))
      all_goals
        first
          | (obtain ⟨V, hV⟩ : ∃ V, V = wO.alloc (.cells #[.int .i64 mm.name, .slice za mm.args.length ta, .int .i64 mm.gives, .slice (some ⟨gc, 0, none⟩) mm.code.length cc] 55) := ⟨_, rfl⟩
             have HBV : Hid (Below w2.heap.size w2 V) := by show Below _ _ _; rw [hV]; exact HBO.out.alloc HBO.out.size _
             have MC0 : Hid (Cells V wO.heap.size [.int .i64 mm.name, .slice za mm.args.length ta, .int .i64 mm.gives, .slice (some ⟨gc, 0, none⟩) mm.code.length cc]) := by show Cells _ _ _; rw [hV]; exact Cells.new wO _ rfl _ _
             obtain ⟨Mx, hMx⟩ : ∃ Mx, wO.heap.size = Mx := ⟨_, rfl⟩
             rw [hMx] at MC0
             rw [← hV, hMx])
          | (obtain ⟨V, hV⟩ : ∃ V, V = (((wO.setCell ⟨w2.heap.size, 0, none⟩ (.int .i64 mm.name)).setCell ⟨w2.heap.size, 1, none⟩ (.slice za mm.args.length ta)).setCell ⟨w2.heap.size, 2, none⟩ (.int .i64 mm.gives)).setCell ⟨w2.heap.size, 3, none⟩ (.slice (some ⟨gc, 0, none⟩) mm.code.length cc) := ⟨_, rfl⟩
             have HBV : Hid (Below w2.heap.size w2 V) := by show Below _ _ _; rw [hV]; exact (((HBO.out.setCell (p := ⟨w2.heap.size, 0, none⟩) (Nat.le_refl _) _).setCell (p := ⟨w2.heap.size, 1, none⟩) (Nat.le_refl _) _).setCell (p := ⟨w2.heap.size, 2, none⟩) (Nat.le_refl _) _).setCell (p := ⟨w2.heap.size, 3, none⟩) (Nat.le_refl _) _
             have MC0 : Hid (Cells V w2.heap.size [.int .i64 mm.name, .slice za mm.args.length ta, .int .i64 mm.gives, .slice (some ⟨gc, 0, none⟩) mm.code.length cc]) := by show Cells _ _ _; rw [hV]; exact (((HCX.out.s0 _).s1 _).s2 _).s3 _
             obtain ⟨Mx, hMx⟩ : ∃ Mx, w2.heap.size = Mx := ⟨_, rfl⟩
             rw [hMx] at MC0
             rw [← hV, hMx])
        clear hV hMx KO KAO KSO HCB HBO hbO
        try clear e0 f0 e1 f1 e2 f2 e3 f3 HCX
        have HRWV : Hid (Row V gc 0 mm.code) := HRW.out.on HBV.out
        have HARV : Hid (SI true Bp V (.slice za mm.args.length ta) mm.args) := SI.on HARG.out (Keep.of HBV.out)
        have HL5 : Hid (LstB w.heap.size V v2 D2) := HLV2.out.on HBV.out
        have hbWV : Below W.heap.size W V := below_over hbW2 HBV.out
        have hb1V : Below w1.heap.size w1 V := below_over hb12 HBV.out
        have h40 := (Lay.ok_len HCD.out).2
        have HOF : Hid (∀ cl' own', p[c]? = some cl' → ownF cl' (n : Int) = some own' → own' = mm) := fun cl' own' h1 h2 => by
          rw [hcl2] at h1; injection h1 with h1; subst h1; rw [hown] at h2; exact (Option.some.inj h2).symm
        have hlen2 := HPN2.out.snd.len HOK.out
        have HG3 : Hid (SndN p (putC p D2 mm.gives)) := HPN2.out.snd.putC fun h0 h1 => .gives hrd hcl2 hown (by omega) (by omega)
        have hcl9 := l14Class_at w.heap.size p (some ⟨bp, po, none⟩) cap D2 v2 mm.gives (by omega) V (HPR.out _ hbWV).2.2.2 HL5.out
        obtain ⟨m2, _⟩ := MC0.out.g2
        have pv := (HPR.out _ hbWV).2.1.g0.1
        clear KD KA HK hcall HBV hq1 hq2 HLV2 HRW HARG
        go_wp2_with fail
        refine hcl9.mono ?_
        rintro e w3 ⟨v3, rfl, hl3, hb3⟩
        have HL3 : Hid (LstB w.heap.size w3 v3 (putC p D2 mm.gives)) := hl3
        have HPN3 : Hid (PutN p M (putC p D2 mm.gives)) := ⟨HG3.out, fun x hx => putC_sub (HPN2.out.sub x hx)⟩
        have HAD3 : Hid (AskD p L (putC p D2 mm.gives) k) := HAD2.out.up fun x hx => putC_sub hx
        have HC3 : Hid ((c : Int) ∈ putC p D2 mm.gives ∧ (0 ≤ mm.gives → mm.gives < (p.length : Int) → mm.gives ∈ putC p D2 mm.gives)) := ⟨putC_sub HC2.out, putC_in⟩
        have MC3 : Hid (Cells w3 Mx [.int .i64 mm.name, .slice za mm.args.length ta, .int .i64 mm.gives, .slice (some ⟨gc, 0, none⟩) mm.code.length cc]) := MC0.out.on hb3
        have HRW3 : Hid (Row w3 gc 0 mm.code) := HRWV.out.on hb3
        have HAR3 : Hid (SI true Bp w3 (.slice za mm.args.length ta) mm.args) := SI.on HARV.out (Keep.of hb3)
        have hbW3 : Below W.heap.size W w3 := below_over hbWV hb3
        have hb13 : Below w1.heap.size w1 w3 := below_over hb1V hb3
        clear hcl9 hl3 hb3 HL5 HG3 HPN2 HAD2 HC2 MC0 HRWV HARV m2 pv hbWV hb1V hlen2
        generalize putC p D2 mm.gives = D3 at *
        go_wp2
        go_loopw [5, 9] (fun s5 s9 wr => ∃ (j : Nat) (D' : List Int), s9 = .int .i64 (j : Int) ∧ j ≤ mm.args.length ∧ Hid (PutN p D3 D') ∧ Hid (AskT p D' mm.args j) ∧ Hid (LstB w.heap.size wr s5 D') ∧ Below w3.heap.size w3 wr) (fun _ s9 _ => mm.args.length - (intOf s9).toNat)
        case atStart => exact ⟨0, D3, rfl, Nat.zero_le _, ⟨HPN3.out.snd, fun _ h => h⟩, fun a ha => absurd ha (Nat.not_lt_zero a), HL3.out, Below.refl _ _⟩
        case round =>
          clear HL3
          obtain ⟨j, D', rfl, hj, hP', hT', hl', hb'⟩ := hrel
          obtain ⟨gD, cD, rfl, _, _, _, _⟩ := hl'.out
          have hbWr : Below W.heap.size W wr := below_over hbW3 hb'
          have MCr := MC3.out.on hb'
          obtain ⟨m1, _⟩ := MCr.g1
          obtain ⟨m3, _⟩ := MCr.g3
          by_cases hja : j < mm.args.length
          · have hji : (j : Int) < (mm.args.length : Int) := by omega
            obtain ⟨bf, of, rfl, _, hcf⟩ := (SI.on HAR3.out (Keep.of hb') : SI true Bp wr _ _).get hja
            have hft : mm.args[j]? = some mm.args[j] := List.getElem?_eq_getElem hja
            have hcf' : wr.cell? ⟨bf, of + j, none⟩ = some (.int .i64 mm.args[j]) := by simpa [IntAt] using hcf
            have p0 := (HPR.out _ hbWr).2.1.g0.1
            have HB1 : Hid (j + 1 ≤ mm.args.length) := hja
            have hD2 := hP'.out.snd.len HOK.out
            generalize mm.args[j] = t at *
            have HN : Hid (PutN p D3 (putC p D' t)) := ⟨hP'.out.snd.putC fun h0 h1 => .args hrd hcl2 hown (t := t.toNat) (by rw [Int.toNat_of_nonneg h0]; exact List.mem_of_getElem? hft) (by omega), fun x hx => putC_sub (hP'.out.sub x hx)⟩
            have HT : Hid (AskT p (putC p D' t) mm.args (j + 1)) := (hT'.out.up fun x hx => putC_sub hx).next fun t' ht' h0 h1 => by
              rw [hft] at ht'; injection ht' with ht'; subst ht'; exact putC_in h0 h1
            have HCALL : ∀ x : World, Below wr.heap.size wr x → Calls Tryz.prog 57 #[.agg #[.slice (some ⟨bp, po, none⟩) p.length cap], .slice (some ⟨gD, 0, none⟩) D'.length cD, .int .i64 t] x fun e w' => ∃ v', e = .returned v' ∧ LstB w.heap.size w' v' (putC p D' t) ∧ Below x.heap.size x w' := fun x hx =>
              l14Class_at w.heap.size p (some ⟨bp, po, none⟩) cap D' _ t (by omega) x (HPR.out _ (below_over hbWr hx)).2.2.2 (hl'.out.on hx)
            have HCALLH : Hid (∀ x : World, Below wr.heap.size wr x → Calls Tryz.prog 57 #[.agg #[.slice (some ⟨bp, po, none⟩) p.length cap], .slice (some ⟨gD, 0, none⟩) D'.length cD, .int .i64 t] x fun e w' => ∃ v', e = .returned v' ∧ LstB w.heap.size w' v' (putC p D' t) ∧ Below x.heap.size x w') := HCALL
            clear hcf hft HCALL hT' hP' m3
            go_upto_region 13 with fail
            apply meetR
            case h =>
              intro hp
              go_region_law (go_simp; go_at_call 57; refine (HCALLH.out _ (Below.refl _ _).drew).mono ?_; rintro e w6 ⟨v', rfl, hlv, hb6⟩; dsimp only)
              all_goals (revert w6 v'; exact hp)
            intro w6 v' hlv hb6
            have HLV : Hid (LstB w.heap.size w6 v' (putC p D' t)) := hlv
            have hb7 : Below w3.heap.size w3 w6 := below_over hb' (below_over ((Below.refl _ _).drew) hb6)
            clear hlv hb6 HCALLH hl' m1 p0 hcf' hb' hbWr MCr
            go_wp2
            go_roundw
            case rel => exact ⟨j + 1, putC p D' t, by go_num, HB1.out, HN.out, HT.out, HLV.out, hb7⟩
            case measure =>
              have := HB1.out
              simp [intOf]; omega
          · obtain rfl : j = mm.args.length := by omega
            have hji : ¬ ((mm.args.length : Nat) : Int) < ((mm.args.length : Nat) : Int) := by omega
            have HPE : Hid (PutN p M D') := ⟨hP'.out.snd, fun x hx => hP'.out.sub x (HPN3.out.sub x hx)⟩
            have HAE : Hid (AskD p L D' k) := HAD3.out.up hP'.out.sub
            have HTE : Hid (∀ t ∈ mm.args, 0 ≤ t → t < (p.length : Int) → t ∈ D') := hT'.out.all
            have HCE : Hid ((c : Int) ∈ D' ∧ (0 ≤ mm.gives → mm.gives < (p.length : Int) → mm.gives ∈ D')) := ⟨hP'.out.sub _ HC3.out.1, fun h0 h1 => hP'.out.sub _ (HC3.out.2 h0 h1)⟩
            have HRr : Hid (Row wr gc 0 mm.code) := HRW3.out.on hb'
            have hb1r : Below w1.heap.size w1 wr := below_over hb13 hb'
            have HMC : Hid (Cells wr Mx [.int .i64 mm.name, .slice za mm.args.length ta, .int .i64 mm.gives, .slice (some ⟨gc, 0, none⟩) mm.code.length cc]) := MCr
            clear hP' hT' HPN3 HAD3 HC3 HRW3 HAR3 MC3 hb13 hbW3 hja hj MCr hb'
            go_wp2_with fail
            refine (l9Reached_at gc cc mm.code HCD.out wr HRr.out).mono ?_
            rintro e w4 ⟨x, rfl, ⟨gr, cr, rfl, _, _, hir⟩, hb4⟩
            have HIR : Hid (IRow w4 gr 0 (risL (rchB mm.code) 40)) := hir
            have HRW4 : Hid (Row w4 gc 0 mm.code) := HRr.out.on hb4
            have HMC4 : Hid (Cells w4 Mx [.int .i64 mm.name, .slice za mm.args.length ta, .int .i64 mm.gives, .slice (some ⟨gc, 0, none⟩) mm.code.length cc]) := HMC.out.on hb4
            have HL4 : Hid (LstB w.heap.size w4 (.slice (some ⟨gD, 0, none⟩) D'.length cD) D') := hl'.out.on hb4
            have hbW4 : Below W.heap.size W w4 := below_over hbWr hb4
            have hb14 : Below w1.heap.size w1 w4 := below_over hb1r hb4
            have hr40 : (risL (rchB mm.code) 40).length ≤ 40 := rise_fits (risL_rise _ _) fun x hx => by obtain ⟨j, hj, _, rfl⟩ := risL_mem.1 hx; omega
            have HAT : Hid (∀ j x, (risL (rchB mm.code) 40)[j]? = some x → ∃ t : Nat, x = (t : Int) ∧ t < mm.code.length ∧ Runs p c (n : Int) (insF mm.code t)) := fun j x hx => by
              obtain ⟨t, hj, hjr, rfl⟩ := risL_mem.1 (List.mem_of_getElem? hx)
              have hlt := (rchB_iff.1 hjr).lt (Lay.ok_len HCD.out).1
              exact ⟨t, rfl, hlt, cl, mm, t, hcl2, hown, hlt, hjr, rfl⟩
            have HALL : Hid (∀ D2 : List Int, (∀ x ∈ D', x ∈ D2) → (∀ t : Nat, ((t : Nat) : Int) ∈ risL (rchB mm.code) 40 → StpN p D2 (insF mm.code t)) → HasN p D2 c (n : Int)) := fun D2 hs hst => ⟨hs _ HCE.out.1, fun cl' own' h1 h2 h3 h4 => by
                rw [HOF.out _ _ h1 h2] at h3 h4 ⊢
                exact hs _ (HCE.out.2 h3 h4), fun cl' own' h1 h2 t ht h3 h4 => by
                rw [HOF.out _ _ h1 h2] at ht
                exact hs _ (HTE.out t ht h3 h4), fun i hi ho h3 h4 => by
                obtain ⟨cl', own', t, h1, h2, ht, hr, rfl⟩ := hi
                rw [HOF.out _ _ h1 h2] at ht hr ho h3 h4 ⊢
                have h40 := (Lay.ok_len HCD.out).2
                exact hst t (risL_mem.2 ⟨t, by omega, hr, rfl⟩) ho h3 h4⟩
            clear hir hb4 HRr HMC hl' hbWr hb1r HTE HCE HOF
            generalize risL (rchB mm.code) 40 = rs at *
            go_wp2
            go_loopw [5, 11] (fun s5 s11 wr => ∃ (a : Nat) (D2 : List Int), s11 = .int .i64 (a : Int) ∧ a ≤ rs.length ∧ Hid (PutN p D' D2) ∧ Hid (∀ b t, b < a → rs[b]? = some ((t : Nat) : Int) → StpN p D2 (insF mm.code t)) ∧ Hid (LstB w.heap.size wr s5 D2) ∧ Below w4.heap.size w4 wr) (fun _ s11 _ => rs.length - (intOf s11).toNat)
            case atStart => exact ⟨0, D', rfl, Nat.zero_le _, ⟨HPE.out.snd, fun _ h => h⟩, fun b t hb => absurd hb (Nat.not_lt_zero b), HL4.out, Below.refl _ _⟩
            case round =>
              clear HL4
              obtain ⟨a, D2, rfl, ha, hP2, hS2, hl2, hb2⟩ := hrel
              obtain ⟨gD, cD, rfl, _, _, _, _⟩ := hl2.out
              have hbWr : Below W.heap.size W wr := below_over hbW4 hb2
              by_cases haa : a < rs.length
              · have hai : (a : Int) < (rs.length : Int) := by omega
                have hrj : rs[a]? = some rs[a] := List.getElem?_eq_getElem haa
                obtain ⟨t, ht, htl, hrun⟩ := HAT.out a _ hrj
                rw [ht] at hrj
                have cr0 := (HIR.out.on hb2) a _ hrj
                rw [Nat.zero_add] at cr0
                obtain ⟨i0, i1, i2⟩ := (HRW4.out.on hb2) t _ (ins_is htl)
                have htli : (t : Int) < (mm.code.length : Int) := by omega
                have hD2 := hP2.out.snd.len HOK.out
                have HSTP : Hid (∀ D3 : List Int, (∀ x ∈ D2, x ∈ D3) → StpN p D3 (insF mm.code t) → ∀ b t', b < a + 1 → rs[b]? = some ((t' : Nat) : Int) → StpN p D3 (insF mm.code t')) := fun D3 hs hst b t' hb ht' => by
                  rcases Nat.lt_or_ge b a with h1 | h1
                  · exact fun ho h3 h4 => hs _ (hS2.out b t' h1 ht' ho h3 h4)
                  · obtain rfl : b = a := by omega
                    rw [hrj] at ht'
                    injection ht' with ht'
                    obtain rfl : t = t' := by omega
                    exact hst
                have HRI : Hid (Runs p c (n : Int) (insF mm.code t)) := hrun
                have HA1 : Hid (a + 1 ≤ rs.length) := haa
                clear hrun ht hS2
                generalize insF mm.code t = ii at *
                obtain ⟨op, A, Bi⟩ := ii
                simp only [Nat.zero_add] at i0 i1 i2
                obtain ⟨m3, _⟩ := (HMC4.out.on hb2).g3
                have q3 : Mx < wr.heap.size := cell_lt m3
                have q4 : gr < wr.heap.size := cell_lt cr0
                have q5 : gc < wr.heap.size := cell_lt i0
                go_upto_region 18 with fail
                apply meetR
                case h =>
                  intro hp
                  go_region_law (fail)
                  all_goals exact hp
                obtain ⟨V, hV⟩ : ∃ V, V = (wr.alloc (.cells #[.int .i64 op, .int .i64 A, .int .i64 Bi] 73)).drew := ⟨_, rfl⟩
                have hwV : Below wr.heap.size wr V := by rw [hV]; exact ((Below.refl _ _).alloc (Nat.le_refl _) _).drew
                have CI : Hid (Cells V wr.heap.size [.int .i64 op, .int .i64 A, .int .i64 Bi]) := by
                  rw [hV]
                  exact (Cells.new wr _ rfl _ _).on ((Below.refl _ _).drew)
                have hl2V : Hid (LstB w.heap.size V (.slice (some ⟨gD, 0, none⟩) D2.length cD) D2) := hl2.out.on hwV
                have hb4V : Below w4.heap.size w4 V := below_over hb2 hwV
                have hbWV : Below W.heap.size W V := below_over hbWr hwV
                rw [← hV]
                clear hV i0 i1 i2 cr0 m3 q3 q4 q5 hl2 hb2 hbWr hwV
                have p0 := (HPR.out _ hbWV).2.1.g0.1
                obtain ⟨j0, _⟩ := CI.out.g0
                obtain ⟨j1, _⟩ := CI.out.g1
                by_cases hop : op = 15 ∨ op = 16 ∨ op = 17
                · have HN : Hid (PutN p D' (putC p D2 A)) := ⟨hP2.out.snd.putC fun h0 h1 => .step hrd HRI.out (A := A.toNat) hop (by dsimp only; omega) (by omega), fun x hx => putC_sub (hP2.out.sub x hx)⟩
                  have HT := hid_of (HSTP.out (putC p D2 A) (fun x hx => putC_sub hx) fun _ h0 h1 => putC_in h0 h1)
                  have HCALLH : Hid (∀ x : World, Below V.heap.size V x → Calls Tryz.prog 57 #[.agg #[.slice (some ⟨bp, po, none⟩) p.length cap], .slice (some ⟨gD, 0, none⟩) D2.length cD, .int .i64 A] x fun e w' => ∃ v', e = .returned v' ∧ LstB w.heap.size w' v' (putC p D2 A) ∧ Below x.heap.size x w') := fun x hx =>
                    l14Class_at w.heap.size p (some ⟨bp, po, none⟩) cap D2 _ A (by omega) x (HPR.out _ (below_over hbWV hx)).2.2.2 (hl2V.out.on hx)
                  clear hP2 HSTP HRI
                  rcases hop with rfl | rfl | rfl
                  all_goals
                    go_wp2_with fail
                    refine (HCALLH.out _ (Below.refl _ _)).mono ?_
                    rintro e w6 ⟨v', rfl, hlv, hb6⟩
                    have HLV : Hid (LstB w.heap.size w6 v' (putC p D2 A)) := hlv
                    have hb7 : Below w4.heap.size w4 w6 := below_over hb4V hb6
                    clear hlv hb6 HCALLH hl2V j0 j1 p0 hb4V hbWV CI
                    go_wp2
                    go_roundw
                    case rel => exact ⟨a + 1, putC p D2 A, by go_num, HA1.out, HN.out, HT.out, HLV.out, hb7⟩
                    case measure =>
                      have := HA1.out
                      simp [intOf]; omega
                · have HT := hid_of (HSTP.out D2 (fun x hx => hx) fun ho => absurd ho hop)
                  have hb15 : (op == 15) = false := by simpa using fun h => hop (.inl h)
                  have hb16 : (op == 16) = false := by simpa using fun h => hop (.inr (.inl h))
                  have hb17 : (op == 17) = false := by simpa using fun h => hop (.inr (.inr h))
                  clear HSTP hop
                  go_wp2
                  go_roundw
                  case rel => exact ⟨a + 1, D2, by go_num, HA1.out, hP2.out, HT.out, hl2V.out, hb4V⟩
                  case measure =>
                    have := HA1.out
                    simp [intOf]; omega
              · obtain rfl : a = rs.length := by omega
                have hai : ¬ ((rs.length : Nat) : Int) < ((rs.length : Nat) : Int) := by omega
                have HH : Hid (HasN p D2 c (n : Int)) := HALL.out D2 hP2.out.sub fun t ht => by
                  obtain ⟨b, hb, hbt⟩ := List.getElem_of_mem ht
                  exact hS2.out b t hb (by rw [List.getElem?_eq_getElem hb, hbt])
                have HAN : Hid (AskD p L D2 (k + 1)) := (HAE.out.up hP2.out.sub).next hn20 (by rw [HXX.out]; exact HLK.out) HH.out
                have HPN' : Hid (PutN p M D2) := ⟨hP2.out.snd, fun x hx => hP2.out.sub x (HPE.out.sub x hx)⟩
                have hb1x : Below w1.heap.size w1 wr := below_over hb14 hb2
                clear hP2 hS2 HALL HAE HPE HH
                go_wp2
                go_roundw
                case rel => exact ⟨k + 1, D2, by go_num, by omega, HPN'.out, HAN.out, hl2.out, hb1x⟩
                case measure => simp [intOf]; omega
    · obtain rfl : k = L.length := by omega
      have hki : ¬ ((L.length : Nat) : Int) < ((L.length : Nat) : Int) := by omega
      obtain ⟨g5, c5, rfl, _, _, _, _⟩ := hl5.out
      have hclo := l14Closed_at Bp p bp po cap HOK.out w.heap.size D (.slice (some ⟨g5, 0, none⟩) D.length c5) hPN.out.snd wr (HPR.out _ hbW).2.2.2 hl5.out (HPR.out _ hbW).1
      have pc0 := (HPR.out _ hbW).2.1.g0.1
      go_wp2_with fail
      refine hclo.mono ?_
      rintro e w2 ⟨v2, D2, rfl, hl2, hS2, hsub, hcl, hb2⟩
      have HL2 : Hid (LstB w.heap.size w2 v2 D2) := hl2
      have HE : Hid (D2 = risL (ndB p) 6) := by
        have has : ∀ (c : Nat) n, Rd p true c n → HasN p D2 c n := fun c n hr => by
          obtain ⟨m, j, rfl, hm, hj⟩ := HLD.out c n hr
          exact (hAD.out j (List.getElem?_eq_some_iff.1 hj).1 c m hm hj).up hsub
        exact need_lists HOK.out hS2.rd hS2.sd (fun c hc => hsub _ (hPN.out.sub _ (HMD.out c hc))) (fun c n hr => (has c n hr).cls)
          (fun c n cl own hr hc ho => ⟨(has c n hr).gives cl own hc ho, (has c n hr).args cl own hc ho⟩) (fun c n i hr hi ho h0 h1 => (has c n hr).step i hi ho h0 h1) hcl
      have hbx : Below w.heap.size w w2 := below_over hwW (below_over hbW hb2)
      clear hclo hl2 hS2 hsub hcl hb2 hPN hAD pc0 hl5
      go_wp2
      go_ret
      exact ⟨_, rfl, by rw [← HE.out]; exact HL2.out, hbx⟩
end Pg
end Go.Proofs.YtinanjjhkddikaaGreat
