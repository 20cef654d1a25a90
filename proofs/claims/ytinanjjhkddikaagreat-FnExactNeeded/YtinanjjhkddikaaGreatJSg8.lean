/- The search goes on: one find is followed. -/
import Derived.Test.YtinanjjhkddikaaGreatJSg4
import Derived.Deep.RegionHeld3
import Derived.Deep.LoopGhost
import Derived.Test.YtinanjjhkddikaaGreatJPs0
import Derived.Maps.AppendAt
namespace Go.Proofs.YtinanjjhkddikaaGreat
namespace Pg
open Go.ChangeShapes Go.WideShapes Go.ChangeAt Go.RowKit St Wd
/-- What following a find has brought. -/
structure FolQ (p : Prg) (F F' : List Fd) (w : Int) (c : Nat) (n : Int) : Prop where
  done : Done p (fun f => f ∈ F') w c n
  p1 : w = 0 → ∀ (A : Nat) B s, ((2, (A : Int), B) : Fd) ∈ F → undB p (c : Int) (A : Int) = true → selF p (c : Int) B = ((s : Nat) : Int) → ((1, (s : Int), B) : Fd) ∈ F'
  p2 : w = 2 → ∀ (d : Nat) s, ((0, (d : Int), 0) : Fd) ∈ F → undB p (d : Int) (c : Int) = true → selF p (d : Int) n = ((s : Nat) : Int) → ((1, (s : Int), n) : Fd) ∈ F'
theorem need_oneX (p : Prg) (hok : okP p = true) (B0 sb mb cap : Nat) (a : Option Addr) (v : Value) (F T : List Fd) (t : Int) (w X : World) (hX : Below w.heap.size w X) (hi : IRow X w.heap.size 0 [t]) (hB0 : B0 ≤ w.heap.size) (hS : Srch B0 sb mb (.slice a p.length cap) w v F T) (hP : 0 ≤ t → t < (p.length : Int) → SndF p (3, t, 0)) :
    Calls Tryz.prog 78 #[.pointer (some ⟨sb, 0, none⟩), .slice (some ⟨w.heap.size, 0, none⟩) 1 1] X fun e w' => e = .returned (.tuple #[]) ∧ ∃ v' F' T', Adds B0 sb mb (.slice a p.length cap) w v F T (SndF p) w' v' F' T' ∧ (0 ≤ t → t < (p.length : Int) → ((3, t, 0) : Fd) ∈ F') := by
  refine (need_at p hok B0 sb mb cap a v F T [t] (some ⟨w.heap.size, 0, none⟩) 1 (by simp) _ (Nat.le_trans hB0 hX.size) (hS.on hX) (fun _ => ⟨_, 0, rfl, hi, hS.far (Nat.le_refl _) (cell_lt (hi 0 t rfl))⟩) (fun s hs h0 h1 => by rw [List.mem_singleton.1 hs] at *; exact hP h0 h1)).mono ?_
  rintro e w' ⟨rfl, v', F', T', h, hm⟩
  exact ⟨rfl, v', F', T', (Adds.start hS hX).trans h, fun h0 h1 => hm t (by simp) h0 h1⟩
set_option maxRecDepth 100000 in
set_option maxHeartbeats 1000000 in
theorem follow_at (Bp : Nat) (p : Prg) (hok : okP p = true) (hsp : SmallP p) (w0 : World) (sb mb cap : Nat) (a : Option Addr) (hsk : SK front Bp w0 (.slice a p.length cap) p) (v : Value) (F T : List Fd) (wh : Int) (c : Nat) (n : Int) (hf : SndF p (wh, (c : Int), n)) (hFS : ∀ f ∈ F, SndF p f) (w : World) (hb0 : Below w0.heap.size w0 w) (hS : Srch w0.heap.size sb mb (.slice a p.length cap) w v F T) :
    Calls Tryz.prog 55 #[.pointer (some ⟨sb, 0, none⟩), fdV (wh, (c : Int), n)] w fun e w' => e = .returned (.tuple #[]) ∧ ∃ v' F' T', Adds w0.heap.size sb mb (.slice a p.length cap) w v F T (SndF p) w' v' F' T' ∧ FolQ p F F' wh c n := by
  have hc : c < p.length := by obtain ⟨k, hk, hl⟩ := hf.at'; dsimp only at hk; omega
  have hfw := sndF_few hok hf
  have hn : 0 ≤ n ∧ n < 20 := ⟨hfw.c0, hfw.c1⟩
  obtain ⟨V, hV⟩ : ∃ V, V = w.alloc (.cells #[.int .i64 wh, .int .i64 (c : Int), .int .i64 n] 58) := ⟨_, rfl⟩
  have hwV : Below w.heap.size w V := by rw [hV]; exact (Below.refl _ _).alloc (Nat.le_refl _) _
  have FC : Hid (Cells V w.heap.size [.int .i64 wh, .int .i64 (c : Int), .int .i64 n]) := by rw [hV]; exact Cells.new w _ rfl _ _
  have hVz : V.heap.size = w.heap.size + 1 := by rw [hV]; simp
  have HAV : Hid (Adds w0.heap.size sb mb (.slice a p.length cap) w v F T (SndF p) V v F T) := Adds.start hS hwV
  have hBw := hb0.size
  have FF : Hid (FarS sb mb V v w.heap.size) := hS.far (Nat.le_refl _) (by omega)
  have hnc : Nd p c := by
    rcases hf.what with e | e | e | e
    · have := (hf.made e).2; simp at this; exact .made this
    · have := hf.live e; simp at this; exact .live this
    · obtain ⟨c', n', i, hr, hi, h17, hA, _⟩ := hf.call e; exact .step hr hi (.inr (.inr h17)) hA hc
    · have := (hf.need e).2; simp at this; exact this
  have hnd := need_one p hok w0.heap.size sb mb cap a v F T (c : Int) V (by omega) HAV.out.st (fun h0 h1 => sndF_need h0 h1 (by rwa [Int.toNat_natCast])) 2
  rw [hVz] at hnd
  have g1 : (w.alloc (.cells #[.int .i64 wh, .int .i64 (c : Int), .int .i64 n] 58)).cell? ⟨w.heap.size, 1, none⟩ = some (.int .i64 (c : Int)) := by rw [← hV]; exact FC.out.g1.1
  have HSK : Hid (SK front Bp w0 (.slice a p.length cap) p) := hsk
  have HFS : Hid (∀ f ∈ F, SndF p f) := hFS
  have HF : Hid (SndF p (wh, (c : Int), n)) := hf
  clear hsk hFS hf hfw
  obtain ⟨M, hM⟩ : ∃ M, w.heap.size = M := ⟨_, rfl⟩
  rw [hM] at FC hVz FF g1 hnd
  go_enter Tryz.func55, Tryz.ntmps55
  go_wp2_with fail
  try simp only [hM]
  rw [← hV]
  clear hV g1
  refine hnd.mono ?_
  rintro e w2 ⟨rfl, v2, F2, T2, hA2, hm2⟩
  have HA2 : Hid (Adds w0.heap.size sb mb (.slice a p.length cap) w v F T (SndF p) w2 v2 F2 T2) := HAV.out.trans hA2
  have fm2 := FF.out.next hA2.fr
  have FC2 : Hid (Cells w2 M [.int .i64 wh, .int .i64 (c : Int), .int .i64 n]) := FC.out.heap fm2.2
  have FF2 : Hid (FarS sb mb w2 v2 M) := fm2.1
  have HM2 : Hid (((3, (c : Int), 0) : Fd) ∈ F2) := hm2 (by omega) (by omega)
  have hb2 : Below w0.heap.size w0 w2 := hb0.trans (HA2.out.below hS)
  have HFS2 : Hid (∀ f ∈ F2, SndF p f) := fun f hf => (HA2.out.new f hf).elim (HFS.out f) id
  clear hnd hA2 hm2 fm2 HAV FC FF
  obtain ⟨q0, _⟩ := FC2.out.g0
  obtain ⟨q1, _⟩ := FC2.out.g1
  obtain ⟨q2, _⟩ := FC2.out.g2
  by_cases h0 : wh = 0
  · subst h0
    have hr0 : Rd p false c 0 := by have := (HF.out.made rfl).2; simpa using this
    have hn0 : n = 0 := (HF.out.made rfl).1
    have hcall := followMade_at Bp p hok hsp w0 sb mb cap a HSK.out v2 F2 T2 c hc w2 hb2 HA2.out.st HFS2.out (fun A s B h2 hu hs => by
      obtain ⟨c', n', i, hr, hi, h17, hA, hB⟩ := h2.call rfl
      dsimp only at hA hB
      obtain ⟨k, hk, hl⟩ := h2.at'
      dsimp only at hk
      obtain ⟨_, _, hs1, _⟩ := sel_there hs
      refine sndF_live ?_ (List.getElem?_eq_some_iff.1 hs1).1
      rw [← hB]
      exact .meet hr hi h17 hA (by omega) hr0 hu (by rw [hB]; exact hs))
    go_wp2_with fail
    refine hcall.mono ?_
    rintro e w3 ⟨rfl, v3, F3, T3, hA3, hq3⟩
    have HA3 : Hid (Adds w0.heap.size sb mb (.slice a p.length cap) w v F T (SndF p) w3 v3 F3 T3) := HA2.out.trans hA3
    have HQ3 : Hid (FolQ p F F3 0 c n) := by
      refine ⟨⟨hA3.ext.up _ HM2.out, fun e => ?_, fun e => ?_, fun e => ?_, fun e => ?_, fun e => ?_, fun e => ?_, fun e => ?_, fun e => ?_⟩, fun _ A B s hA hu hs => hq3.out A s B (HA2.out.ext.up _ hA) hu hs, fun e => ?_⟩
      all_goals simp at e
    clear hcall hA3 hq3 HA2 FC2 FF2 HM2 HFS2 q0 q1 q2
    go_wp2
    go_end0
    first | exact ⟨rfl, v3, F3, T3, HA3.out, HQ3.out⟩ | exact ⟨rfl, v3, F3, ⟨T3, HA3.out⟩, HQ3.out⟩
  · by_cases h1 : wh = 1
    · subst h1
      have hr1 : Rd p true c n := by have := HF.out.live rfl; simpa using this
      obtain ⟨cl, own, hcl, ho⟩ := (rd_there hok hr1).2 rfl
      have hcl' : p[c] = cl := (List.getElem?_eq_some_iff.1 hcl).2
      have hcall := followMethod_at Bp p hok hsp w0 sb mb cap a HSK.out v2 F2 T2 c hc n own (by rw [hcl']; exact ho) hr1 w2 hb2 HA2.out.st
      go_wp2_with fail
      refine hcall.mono ?_
      rintro e w3 ⟨rfl, v3, F3, T3, hA3, hq3⟩
      have HA3 : Hid (Adds w0.heap.size sb mb (.slice a p.length cap) w v F T (SndF p) w3 v3 F3 T3) := HA2.out.trans hA3
      have HQ3 : Hid (FolQ p F F3 1 c n) := by
        have same : ∀ cl' own', p[c]? = some cl' → ownF cl' n = some own' → own' = own := fun cl' own' h1 h2 => by
          rw [hcl] at h1; injection h1 with h1; subst h1; rw [ho] at h2; exact (Option.some.inj h2).symm
        have stp : ∀ i, Runs p c n i → InsQ p F3 i := fun i hi => by
          obtain ⟨cl', own', k, h1, h2, h3, h4, rfl⟩ := hi
          have := same cl' own' h1 h2
          subst this
          exact hq3.steps k h3 h4
        refine ⟨⟨hA3.ext.up _ HM2.out, fun _ cl' own' t h1 h2 h3 h4 => ?_, fun _ cl' own' t h1 h2 h3 h4 => ?_, fun _ i A hi h1 h2 h3 => ?_, fun _ i A hi h1 h2 h3 => ?_, fun _ i A hi h1 h2 h3 => ?_, fun e => ?_, fun e => ?_, fun e => ?_⟩, fun e => ?_, fun e => ?_⟩
        · have := same cl' own' h1 h2; subst this; rw [← h3]; exact hq3.gives (by omega) (by omega)
        · have := same cl' own' h1 h2; subst this; exact hq3.args _ h3 (by omega) (by omega)
        · rw [← h2]; exact (stp i hi).new h1 (by omega) (by omega)
        · rw [← h2]; exact (stp i hi).fld h1 (by omega) (by omega)
        · rw [← h2]; exact (stp i hi).call h1 (by omega) (by omega)
        all_goals simp at e
      clear hcall hA3 hq3 HA2 FC2 FF2 HM2 HFS2 q0 q1 q2
      go_wp2
      go_end0
      first | exact ⟨rfl, v3, F3, T3, HA3.out, HQ3.out⟩ | exact ⟨rfl, v3, F3, ⟨T3, HA3.out⟩, HQ3.out⟩
    · by_cases h2 : wh = 2
      · subst h2
        obtain ⟨c', n', i, hr, hi, h17, hA, hB⟩ := HF.out.call rfl
        dsimp only at hA hB
        have hcall := followCall_at Bp p hok hsp w0 sb mb cap a HSK.out v2 F2 T2 c hc n w2 hb2 HA2.out.st hn HFS2.out (fun s hs => by
          obtain ⟨_, _, hs1, _⟩ := sel_there hs
          refine sndF_live ?_ (List.getElem?_eq_some_iff.1 hs1).1
          rw [← hB]
          exact .call hr hi h17 hA hc (by rw [hB]; exact hs)) (fun d s hd hu hs => by
          obtain ⟨_, _, hs1, _⟩ := sel_there hs
          refine sndF_live ?_ (List.getElem?_eq_some_iff.1 hs1).1
          rw [← hB]
          exact .meet hr hi h17 hA hc hd hu (by rw [hB]; exact hs))
        go_wp2_with fail
        refine hcall.mono ?_
        rintro e w3 ⟨rfl, v3, F3, T3, hA3, hq3⟩
        have HA3 : Hid (Adds w0.heap.size sb mb (.slice a p.length cap) w v F T (SndF p) w3 v3 F3 T3) := HA2.out.trans hA3
        have HQ3 : Hid (FolQ p F F3 2 c n) := by
          refine ⟨⟨hA3.ext.up _ HM2.out, fun e => ?_, fun e => ?_, fun e => ?_, fun e => ?_, fun e => ?_, fun _ s hs => hq3.out.1 s hs, fun e => ?_, fun e => ?_⟩, fun e => ?_, fun _ d s hd hu hs => hq3.out.2 d s (HA2.out.ext.up _ hd) hu hs⟩
          all_goals simp at e
        clear hcall hA3 hq3 HA2 FC2 FF2 HM2 HFS2 q0 q1 q2
        go_wp2
        go_end0
        first | exact ⟨rfl, v3, F3, T3, HA3.out, HQ3.out⟩ | exact ⟨rfl, v3, F3, ⟨T3, HA3.out⟩, HQ3.out⟩
      · have h3 : wh = 3 := by
          rcases HF.out.what with e | e | e | e <;> dsimp only at e <;> omega
        subst h3
        have hcl2 : p[c]? = some p[c] := List.getElem?_eq_getElem hc
        have HNS : Hid (0 ≤ p[c].super → p[c].super < (p.length : Int) → SndF p (3, p[c].super, 0)) := fun h0 h1 => sndF_need h0 h1 (.sup hnc hcl2 (s := p[c].super.toNat) (by omega) (by omega))
        have HNF : Hid (∀ t ∈ p[c].fields, 0 ≤ t → t < (p.length : Int) → SndF p (3, t, 0)) := fun t ht h0 h1 => sndF_need h0 h1 (.field hnc hcl2 (t := t.toNat) (by rw [show ((t.toNat : Nat) : Int) = t by omega]; exact ht) (by omega))
        have hfl : p[c].fields.length ≤ 1048576 := (hsp.2 _ (List.getElem_mem hc)).1
        have HCL : Hid (p[c]? = some p[c]) := hcl2
        have hci : (c : Int) < (p.length : Int) := by omega
        have hc0 : (0 : Int) ≤ (c : Int) := by omega
        obtain ⟨b, o, rfl, _, vf, vm, d0, d1, d2, hcv⟩ := HSK.out.get hc
        obtain ⟨z1, t1, rfl⟩ := hcv.1.form
        have HFL : Hid (SI true Bp w0 (.slice z1 p[c].fields.length t1) p[c].fields) := hcv.1
        have l0 : b < w0.heap.size := cell_lt d0
        clear hcv d2 hcl2
        generalize p[c] = cl at *
        have HK : Hid (∀ X v' F' T', Adds w0.heap.size sb mb (.slice (some ⟨b, o, none⟩) p.length cap) w2 v2 F2 T2 (SndF p) X v' F' T' → X.cell? ⟨sb, 0, none⟩ = some (.slice (some ⟨b, o, none⟩) p.length cap) ∧ X.cell? ⟨M, 1, none⟩ = some (.int .i64 (c : Int)) ∧ X.cell? ⟨b, o + c * 3, none⟩ = some (.int .i64 cl.super) ∧ X.cell? ⟨b, o + c * 3 + 1, none⟩ = some (.slice z1 cl.fields.length t1)) := fun X v' F' T' h => by
          have hb := hb2.trans (h.below HA2.out.st)
          exact ⟨h.st.cells.g0.1, FF2.out.cell h.fr q1, (hb.cell l0).trans d0, (hb.cell l0).trans d1⟩
        have KD := HK.out w2.drew v2 F2 T2 (Adds.start HA2.out.st (Below.refl _ _).drew)
        have KA := fun (l : Array Value) (t : TypeId) => HK.out (w2.alloc (.cells l t)).drew v2 F2 T2 (Adds.start HA2.out.st ((Below.refl _ _).alloc (Nat.le_refl _) _).drew)
        have HN1 : Hid (∀ X t, X = (w2.alloc (.cells #[.int .i64 cl.super] t)).drew → Calls Tryz.prog 78 #[.pointer (some ⟨sb, 0, none⟩), .slice (some ⟨w2.heap.size, 0, none⟩) 1 1] X fun e w' => e = .returned (.tuple #[]) ∧ ∃ v' F' T', Adds w0.heap.size sb mb (.slice (some ⟨b, o, none⟩) p.length cap) w2 v2 F2 T2 (SndF p) w' v' F' T' ∧ (0 ≤ cl.super → cl.super < (p.length : Int) → ((3, cl.super, 0) : Fd) ∈ F')) := fun X t hX => by
          subst hX
          exact need_oneX p hok w0.heap.size sb mb cap (some ⟨b, o, none⟩) v2 F2 T2 cl.super w2 _ ((Below.refl _ _).alloc (Nat.le_refl _) _).drew (irow_one w2 cl.super t) hb2.size HA2.out.st HNS.out
        go_upto_region 10 with fail
        go_region_held3 (fun X => X.cell? ⟨sb, 0, none⟩ = some (.slice (some ⟨b, o, none⟩) p.length cap) ∧ X.cell? ⟨M, 1, none⟩ = some (.int .i64 (c : Int)) ∧ X.cell? ⟨b, o + c * 3, none⟩ = some (.int .i64 cl.super) ∧ X.cell? ⟨b, o + c * 3 + 1, none⟩ = some (.slice z1 cl.fields.length t1))
          (first | exact KD | exact KA _ _ | assumption)
          (first
            | (go_at_call 78; refine (HN1.out _ _ rfl).mono ?_; rintro e w3 ⟨rfl, v3, F3, T3, hA3, hm3⟩; have K3 := HK.out w3 v3 F3 T3 hA3))
        have HA3 : Hid (Adds w0.heap.size sb mb (.slice (some ⟨b, o, none⟩) p.length cap) w2 v2 F2 T2 (SndF p) w3 v3 F3 T3) := hA3
        have HM3 : Hid (0 ≤ cl.super → cl.super < (p.length : Int) → ((3, cl.super, 0) : Fd) ∈ F3) := hm3
        have K4 := HK.out w3.drew v3 F3 T3 (HA3.out.on (Below.refl _ _).drew)
        have hb3 : Below w0.heap.size w0 w3 := hb2.trans (HA3.out.below HA2.out.st)
        have HN2 : Hid (∀ X, X = w3.drew → Calls Tryz.prog 78 #[.pointer (some ⟨sb, 0, none⟩), .slice z1 cl.fields.length t1] X fun e w' => e = .returned (.tuple #[]) ∧ ∃ v' F' T', Adds w0.heap.size sb mb (.slice (some ⟨b, o, none⟩) p.length cap) w2 v2 F2 T2 (SndF p) w' v' F' T' ∧ (∀ f ∈ F3, f ∈ F') ∧ ∀ t ∈ cl.fields, 0 ≤ t → t < (p.length : Int) → ((3, t, 0) : Fd) ∈ F') := fun X hX => by
          subst hX
          refine (need_at p hok w0.heap.size sb mb cap (some ⟨b, o, none⟩) v3 F3 T3 cl.fields z1 t1 hfl w3.drew hb3.size (HA3.out.st.on (Below.refl _ _).drew) (fun h => by
            obtain ⟨bb, oo, e, hi⟩ := HFL.out.rows h
            have hlt : bb < w0.heap.size := cell_lt (hi 0 _ (List.getElem?_eq_getElem h))
            exact ⟨bb, oo, e, hi.below (hb3.trans ((Below.refl _ _).drew.mono hb3.size)) hlt, FarS.low (HA3.out.st.on (Below.refl _ _).drew) hlt⟩) HNF.out).mono ?_
          rintro e w' ⟨rfl, v', F', T', h, hm⟩
          exact ⟨rfl, v', F', T', (HA3.out.on (Below.refl _ _).drew).trans h, h.ext.up, hm⟩
        clear hA3 hm3 K3 KD KA HN1 q0 q1 q2
        go_upto_region 11 with fail
        go_region_held3 (fun X => X.cell? ⟨sb, 0, none⟩ = some (.slice (some ⟨b, o, none⟩) p.length cap) ∧ X.cell? ⟨M, 1, none⟩ = some (.int .i64 (c : Int)) ∧ X.cell? ⟨b, o + c * 3, none⟩ = some (.int .i64 cl.super) ∧ X.cell? ⟨b, o + c * 3 + 1, none⟩ = some (.slice z1 cl.fields.length t1))
          (first | exact K4 | assumption)
          (first
            | (go_at_call 78; refine (HN2.out _ rfl).mono ?_; rintro e w5 ⟨rfl, v5, F5, T5, hA5, hu5, hm5⟩; have K5 := HK.out w5 v5 F5 T5 hA5))
        have HA5 : Hid (Adds w0.heap.size sb mb (.slice (some ⟨b, o, none⟩) p.length cap) w v F T (SndF p) w5 v5 F5 T5) := HA2.out.trans hA5
        have HQ5 : Hid (FolQ p F F5 3 c n) := by
          refine ⟨⟨?_, fun e => ?_, fun e => ?_, fun e => ?_, fun e => ?_, fun e => ?_, fun e => ?_, fun _ cl' s h1 h2 h3 => ?_, fun _ cl' t h1 h2 h3 => ?_⟩, fun e => ?_, fun e => ?_⟩
          · exact hA5.ext.up _ HM2.out
          · simp at e
          · simp at e
          · simp at e
          · simp at e
          · simp at e
          · simp at e
          · rw [HCL.out] at h1; injection h1 with h1; subst h1
            rw [← h2]; exact hu5 _ (HM3.out (by omega) (by omega))
          · rw [HCL.out] at h1; injection h1 with h1; subst h1
            exact hm5 _ h2 (by omega) (by omega)
          · simp at e
          · simp at e
        clear hA5 hu5 hm5 K4 K5 HN2 HK HA3 HA2 FC2 FF2 HM2 HFS2 d0 d1
        go_wp2
        go_end0
        first | exact ⟨rfl, v5, F5, T5, HA5.out, HQ5.out⟩ | exact ⟨rfl, v5, F5, ⟨T5, HA5.out⟩, HQ5.out⟩
end Pg
end Go.Proofs.YtinanjjhkddikaaGreat

/- The program's search, whole. -/
namespace Go.Proofs.YtinanjjhkddikaaGreat
namespace Pg
open Go.ChangeShapes Go.WideShapes Go.ChangeAt Go.RowKit St Wd
theorem nodup_sub : ∀ {l m : List Fd}, l.Nodup → (∀ x ∈ l, x ∈ m) → l.length ≤ m.length
  | [], _, _, _ => Nat.zero_le _
  | x :: l, m, hnd, hs => by
    obtain ⟨h1, h2⟩ := List.nodup_cons.1 hnd
    have hx := hs x (by simp)
    have := nodup_sub (l := l) (m := m.erase x) h2 (fun y hy => (List.mem_erase_of_ne (fun e => by subst e; exact h1 hy)).2 (hs y (by simp [hy])))
    rw [List.length_erase_of_mem hx] at this
    have hm : 0 < m.length := List.length_pos_of_mem hx
    simp only [List.length_cons]
    omega
/-- What a search has found. -/
structure Fnd (p : Prg) (F : List Fd) : Prop where
  made : ∀ c : Nat, ((0, (c : Int), 0) : Fd) ∈ F ↔ Rd p false c 0
  live : ∀ (c : Nat) n, ((1, (c : Int), n) : Fd) ∈ F ↔ Rd p true c n
  need : ∀ c : Nat, ((3, (c : Int), 0) : Fd) ∈ F ↔ Nd p c
set_option maxRecDepth 100000 in
set_option maxHeartbeats 1000000 in
theorem searched_at (Bp : Nat) (p : Prg) (hok : okP p = true) (hsp : SmallP p) (cap : Nat) (a : Option Addr) (w : World) (hsk : SK front Bp w (.slice a p.length cap) p) :
    Calls Tryz.prog 31 #[.agg #[.slice a p.length cap]] w fun e w' => ∃ sb mb v F, e = .returned (.pointer (some ⟨sb, 0, none⟩)) ∧ Srch w.heap.size sb mb (.slice a p.length cap) w' v F [] ∧ Fnd p F ∧ Below w.heap.size w w' := by
  have h0p : 0 < p.length := (okP_len hok).1
  have HSK : Hid (SK front Bp w (.slice a p.length cap) p) := hsk
  clear hsk
  obtain ⟨V, hV⟩ : ∃ V, V = ((w.alloc (.cells #[.slice a p.length cap] 30)).alloc (.map #[] 0)).alloc (.cells #[.slice a p.length cap, .map (some (w.heap.size + 1)), .slice none 0 0] 87) := ⟨_, rfl⟩
  have hwV : Below w.heap.size w V := by rw [hV]; exact (((Below.refl _ _).alloc (Nat.le_refl _) _).alloc (by simp) _).alloc (by simp; omega) _
  obtain ⟨A, hA⟩ : ∃ A, w.heap.size = A := ⟨_, rfl⟩
  have SC : Cells V (A + 1 + 1) [.slice a p.length cap, .map (some (A + 1)), .slice none 0 0] := by
    rw [hV, ← hA]
    exact Cells.new ((w.alloc _).alloc _) _ (by simp) _ _
  have MP : FM V (A + 1) [] := by
    have h0 := World.ownsMap_made (H := Unit) (w.alloc (.cells #[.slice a p.length cap] 30)) Tryz.prog 58 (unitElem (H := Unit))
    simp only [World.size_alloc] at h0
    refine ⟨.map [], ?_, repF_nil⟩
    rw [hV, ← hA]
    exact own600 (h0.alloc _) (by show (Maps.size (DataW.map [] : DataW Unit)) ≤ 600; exact Nat.zero_le _)
  have hSV : Srch w.heap.size (A + 1 + 1) (A + 1) (.slice a p.length cap) V (.slice none 0 0) [] [] :=
    ⟨SC, MP, ⟨rfl, .inl ⟨rfl, rfl⟩⟩, fun f hf => by simp at hf, List.nodup_nil, Nat.le_refl _, by omega, by omega, by omega, by simp [Value.ownBlock], by simp [Value.ownBlock]⟩
  have hmk := @run_makeMap Tryz.prog
  have hadd1 := add_at w.heap.size (A + 1 + 1) (A + 1) p.length cap a (.slice none 0 0) [] [] (0, 0, 0) (fun h0 h1 => ⟨by decide, by decide, by decide, by decide, by decide, by decide⟩) V hwV.size hSV
  go_enter Tryz.func31, Tryz.ntmps31
  go_wp2_with fail
  try simp only [hA]
  rw [hA] at hV
  rw [← hV]
  clear hV hmk
  refine hadd1.mono ?_
  rintro e w1 ⟨rfl, v1, F1, T1, hA1, hm1⟩
  have HA1 : Hid (Adds w.heap.size (A + 1 + 1) (A + 1) (.slice a p.length cap) V (.slice none 0 0) [] [] (fun g => g = (0, 0, 0) ∨ g = (1, 0, 0)) w1 v1 F1 T1) := hA1.imp fun g hg => .inl hg.1
  have HM1 : Hid (((0, 0, 0) : Fd) ∈ F1) := hm1 (by decide) (by omega)
  have hb1 : Below w.heap.size w w1 := hwV.trans (HA1.out.below hSV)
  have hadd2 := add_at w.heap.size (A + 1 + 1) (A + 1) p.length cap a v1 F1 T1 (1, 0, 0) (fun h0 h1 => ⟨by decide, by decide, by decide, by decide, by decide, by decide⟩) w1 hb1.size HA1.out.st
  clear hadd1 hA1 hm1
  go_wp2_with fail
  refine hadd2.mono ?_
  rintro e w2 ⟨rfl, v2, F2, T2, hA2, hm2⟩
  have HA2 : Hid (Adds w.heap.size (A + 1 + 1) (A + 1) (.slice a p.length cap) V (.slice none 0 0) [] [] (fun g => g = (0, 0, 0) ∨ g = (1, 0, 0)) w2 v2 F2 T2) := HA1.out.trans (hA2.imp fun g hg => .inr hg.1)
  have HSR : Hid (SrI p (fun f => f ∈ F2) (fun f => f ∈ T2)) := by
    have e1 : (fun f => f ∈ F2) = (fun f : Fd => f = (0, 0, 0) ∨ f = (1, 0, 0)) := funext fun f => propext ⟨fun h => by
      rcases HA2.out.new f h with k | k
      · simp at k
      · exact k, fun h => by
      rcases h with rfl | rfl
      · exact hA2.ext.up _ HM1.out
      · exact hm2 (by decide) (by omega)⟩
    have e2 : (fun f => f ∈ T2) = (fun f => f ∈ F2) := funext fun f => propext ⟨fun h => by
      rcases HA2.out.ext.sub f h with k | k
      · simp at k
      · exact k, fun h => HA2.out.ext.new f h (by simp)⟩
    show SrI p _ _
    rw [e2, e1]
    exact SrI.start h0p
  have hb2 : Below w.heap.size w w2 := hwV.trans (HA2.out.below hSV)
  have HS2 : Hid (Srch w.heap.size (A + 1 + 1) (A + 1) (.slice a p.length cap) w2 v2 F2 T2) := HA2.out.st
  clear hadd2 hA2 hm2 HA1 HM1 HA2 hSV SC MP hb1
  go_wp2
  go_loopg [] 2000 (fun n wr => ∃ (v : Value) (F T : List Fd), Hid (Srch w.heap.size (A + 1 + 1) (A + 1) (.slice a p.length cap) wr v F T) ∧ Hid (SrI p (fun f => f ∈ F) (fun f => f ∈ T)) ∧ Hid (960 + T.length ≤ 2 * F.length + n) ∧ Below w.heap.size w wr)
  case atStart => exact ⟨v2, F2, T2, HS2.out, HSR.out, by show _ ≤ _; have := HS2.out.tl; have := HS2.out.lenF; omega, hb2⟩
  case round =>
    clear HS2 HSR
    obtain ⟨v, F, T, hS, hI, hme, hb⟩ := hrel
    obtain ⟨xv, n', rfl⟩ := hS.out.row.form
    obtain ⟨s2, t2⟩ := hS.out.cells.g2
    have hF480 := hS.out.lenF
    have hTF := hS.out.tl
    by_cases h0 : T.length = 0
    · have hT : T = [] := List.length_eq_zero_iff.1 h0
      have hi0 : ¬ (0 : Int) < (T.length : Int) := by omega
      have hgt : ¬ (T.length : Int) > 0 := by omega
      have hE := hI.out.ends (fun f hf => by rw [hT] at hf; simp at hf)
      have HFN : Hid (Fnd p F) := ⟨hE.1, hE.2.1, hE.2.2⟩
      have HS' : Hid (Srch w.heap.size (A + 1 + 1) (A + 1) (.slice a p.length cap) wr (.slice xv T.length n') F []) := by
        have := hS.out
        rw [hT] at this ⊢
        exact this
      clear hI hme hE
      go_wp2_with fail
      refine (heapLen _ _ _ wr).mono ?_
      rintro e w3 ⟨rfl, rfl⟩
      go_wp2
      go_ret
      exact ⟨_, _, _, F, rfl, HS'.out, HFN.out, hb⟩
    · obtain ⟨m, hm⟩ : ∃ m, T.length = m + 1 := ⟨T.length - 1, by omega⟩
      obtain ⟨g, c, he, hg1, hg2, hg3, hg4⟩ := hS.out.row.some (by omega)
      injection he with he1 he2 he3
      subst he1 he3
      have hgs : A + 1 + 1 ≠ g := fun e => hS.out.o1 (by rw [e]; rfl)
      have hgm : A + 1 ≠ g := fun e => hS.out.o2 (by rw [e]; rfl)
      have hgt : (T.length : Int) > 0 := by omega
      have hcells := hS.out.cells
      have hrow := hS.out.row
      rw [hm] at hcells hrow s2 hgt
      have hpop := heapPop w.heap.size (A + 1 + 1) g n' m (.slice a p.length cap) (.map (some (A + 1))) T hm (by omega) hgs wr hcells hrow
      go_wp2_with fail
      refine (heapLen _ _ _ wr).mono ?_
      rintro e w3 ⟨rfl, rfl⟩
      go_wp2_with fail
      refine hpop.mono ?_
      rintro e w4 ⟨f, T', rfl, hp4, hl4, hs4, hr4, ht4⟩
      have hfT : f ∈ T := hp4.mem_iff.1 (by simp)
      have hfF := hI.out.sub f hfT
      have hsnd := hI.out.snd f hfF
      have HS4 : Hid (Srch w.heap.size (A + 1 + 1) (A + 1) (.slice a p.length cap) w4 (.slice (some ⟨g, 0, none⟩) m n') F T') :=
        ⟨hs4, hS.out.map.block (ht4.far _ hS.out.map.lt (by omega)), by rw [← hl4] at hr4 ⊢; exact hr4, hS.out.few, hS.out.nd, by omega, hS.out.b1, hS.out.b2, hS.out.ne, by simpa [Value.ownBlock] using fun e => hgs e.symm, by simpa [Value.ownBlock] using fun e => hgm e.symm⟩
      have hb4 : Below w.heap.size w w4 := hb.trans (ht4.below (by have := hb.size; omega) (fun k hk => by rcases hk with e | e <;> omega))
      have HPM : Hid ((f :: T').Perm T) := hp4
      obtain ⟨wh, cI, nn⟩ := f
      obtain ⟨cc, hcc, hccl⟩ := hsnd.at'
      dsimp only at hcc
      subst hcc
      have hta := ta_find (wh, (cc : Int), nn) w4
      have hfol := follow_at Bp p hok hsp w (A + 1 + 1) (A + 1) cap a HSK.out (.slice (some ⟨g, 0, none⟩) m n') F T' wh cc nn hsnd (fun f hf => hI.out.snd f hf) w4 hb4 HS4.out
      clear hpop hp4 hs4 hr4 ht4 hcells hrow s2 t2 hS
      go_wp2_with fail
      refine hfol.mono ?_
      rintro e w5 ⟨rfl, v5, F5, T5, hA5, hq5⟩
      have HS5 : Hid (Srch w.heap.size (A + 1 + 1) (A + 1) (.slice a p.length cap) w5 v5 F5 T5) := hA5.st
      have HI5 : Hid (SrI p (fun f => f ∈ F5) (fun f => f ∈ T5)) := by
        refine hI.out.follow (w := wh) (c := cc) (n := nn) hfT hA5.ext.up (fun g hg => (hA5.new g hg).elim (hI.out.snd g) id) (fun g hg => ?_) (fun g hg hne => ?_) hA5.ext.new hq5.done hq5.p1 hq5.p2
        · rcases hA5.ext.sub g hg with k | k
          · exact hA5.ext.up _ (hI.out.sub g (HPM.out.mem_iff.1 (List.mem_cons_of_mem _ k)))
          · exact k
        · rcases List.mem_cons.1 (HPM.out.mem_iff.2 hg) with k | k
          · exact absurd k hne
          · exact hA5.ext.tup _ k
      have HLE : Hid (F.length ≤ F5.length) := nodup_sub HS4.out.nd hA5.ext.up
      have HLN : Hid (T5.length + F.length = T'.length + F5.length) := hA5.ext.len
      have hb5 : Below w.heap.size w w5 := hb4.trans (hA5.below HS4.out)
      clear hA5 hq5 hfol hI HS4 hta
      go_wp2
      go_roundg (gk - 1)
      case rel => exact ⟨v5, F5, T5, HS5.out, HI5.out, by show _ ≤ _; have := hme.out; have := HLE.out; have := HLN.out; omega, hb5⟩
      case measure => have := hme.out; omega
end Pg
end Go.Proofs.YtinanjjhkddikaaGreat

/- The program's Made and Needed. -/
namespace Go.Proofs.YtinanjjhkddikaaGreat
namespace Pg
open Go.ChangeShapes Go.WideShapes Go.ChangeAt Go.RowKit St Wd
theorem risL_six {P : Nat → Bool} {n : Nat} (hn : n ≤ 6) (h : ∀ c, P c = true → c < n) : risL P n = risL P 6 := by
  refine rise_ext (risL_rise _ _) (risL_rise _ _) fun x => ?_
  rw [risL_mem, risL_mem]
  constructor
  · rintro ⟨j, hj, h1, h2⟩; exact ⟨j, by omega, h1, h2⟩
  · rintro ⟨j, hj, h1, h2⟩; exact ⟨j, h j h1, h1, h2⟩
/-- The answer, where the program is right. -/
def fndL (PB : Nat → Bool) (p : Prg) : List Int := if okP p = true then risL PB 6 else []
theorem Srch.grownG {B0 sb mb : Nat} {pv : Value} {X Y : World} {v : Value} {F T : List Fd} {row : Option Nat} (h : Srch B0 sb mb pv X v F T) (hg : X.grownBy Y row) (hr : ∀ r, row = some r → r ≠ sb ∧ r ≠ mb ∧ v.ownBlock ≠ some r) : Srch B0 sb mb pv Y v F T := by
  refine ⟨h.cells.grownF hg (fun e => (hr _ e).1 rfl), h.map.kept hg (fun e => (hr _ e.symm).2.1 rfl), h.row.kept hg ?_, h.few, h.nd, h.tl, h.b1, h.b2, h.ne, h.o1, h.o2⟩
  cases hq : row with
  | none => cases ho : v.ownBlock with
    | none => exact .inl rfl
    | some g => exact .inr (by simp)
  | some r => exact .inr (hr r hq).2.2
set_option maxRecDepth 100000 in
set_option maxHeartbeats 1000000 in
theorem classesFound_at (Bp : Nat) (p : Prg) (hsp : SmallP p) (cap : Nat) (a : Option Addr) (wh : Int) (h0 : 0 ≤ wh) (h4 : wh < 4) (PB : Nat → Bool) (hPB : okP p = true → ∀ F, Fnd p F → ∀ c : Nat, decide (((wh, (c : Int), 0) : Fd) ∈ F) = PB c) (hPL : okP p = true → ∀ c, PB c = true → c < p.length) (w : World) (hsk : SK front Bp w (.slice a p.length cap) p) :
    Calls Tryz.prog 27 #[.agg #[.slice a p.length cap], .int .i64 wh] w fun e w' => ∃ v, e = .returned v ∧ Grow w.heap.size w' v (fndL PB p) ∧ Below w.heap.size w w' := by
  obtain ⟨i0, hif, hz0, hz1, hz2⟩ := info_parts infoN
  have HSK : Hid (SK front Bp w (.slice a p.length cap) p) := hsk
  have HSP : Hid (SmallP p) := hsp
  clear hsk hsp
  obtain ⟨A, hA⟩ : ∃ A, w.heap.size = A := ⟨_, rfl⟩
  obtain ⟨W, hW⟩ : ∃ W, W = (w.alloc (.cells #[.slice a p.length cap] 30)).alloc (.cells #[] 2) := ⟨_, rfl⟩
  have hwW : Below w.heap.size w W := by rw [hW]; exact ((Below.refl _ _).alloc (Nat.le_refl _) _).alloc (by simp) _
  have PC : Hid (Cells W A [.slice a p.length cap]) := by rw [hW, ← hA]; exact (Cells.new w _ rfl _ _).alloc _
  have GW : Hid (Grow A W (.slice (some ⟨A + 1, 0, none⟩) 0 0) []) := by
    have h := (grow_start (w.alloc (.cells #[.slice a p.length cap] 30))).base' (B' := w.heap.size) (by simp)
    simp only [World.size_alloc] at h
    rw [hW, ← hA]; exact h
  have hWz : W.heap.size = A + 1 + 1 := by rw [hW, ← hA]; simp
  rw [hA]
  go_enter Tryz.func27, Tryz.ntmps27
  go_wp2_with fail
  try simp only [hA]
  rw [← hW]
  clear hW
  refine (implProgramOk Bp p a cap HSP.out _ (SK.on HSK.out (Keep.of hwW))).mono ?_
  rintro e w1 ⟨rfl, hb1⟩
  have hw1 : Below A w w1 := by rw [← hA]; exact below_over hwW hb1
  have P1 : Hid (Cells w1 A [.slice a p.length cap]) := PC.out.on hb1
  have G1 : Hid (Grow A w1 (.slice (some ⟨A + 1, 0, none⟩) 0 0) []) := GW.out.on hb1
  have hz1' := hb1.size
  clear PC GW hb1
  cases hok : okP p
  · have HG : Hid (Grow A w1 (.slice (some ⟨A + 1, 0, none⟩) 0 0) (fndL PB p)) := by show Grow _ _ _ _; unfold fndL; rw [hok]; exact G1.out
    clear hok
    go_wp2
    go_ret
    exact ⟨_, rfl, HG.out, hw1⟩
  · have HOK : Hid (okP p = true) := hok
    have h6 := (okP_len hok).2
    have p1 := P1.out.g0.1
    have hsr := searched_at Bp p hok HSP.out cap a w1 (SK.on HSK.out (Keep.of (by rw [hA]; exact hw1)))
    have HPB : Hid (∀ F, Fnd p F → ∀ c : Nat, decide (((wh, (c : Int), 0) : Fd) ∈ F) = PB c) := hPB hok
    have HSIX : Hid (risL PB p.length = fndL PB p) := by show _ = _; unfold fndL; rw [if_pos hok]; exact risL_six h6 (hPL hok)
    clear hok hPB hPL
    go_wp2_with fail
    refine hsr.mono ?_
    rintro e w2 ⟨sb, mb, v, F, rfl, hS, hF, hb2⟩
    have hw2 : Below A w w2 := hw1.trans (hb2.mono (by have := hw1.size; omega))
    have P2 : Hid (Cells w2 A [.slice a p.length cap]) := P1.out.on hb2
    have G2 : Hid (Grow A w2 (.slice (some ⟨A + 1, 0, none⟩) 0 0) []) := G1.out.on hb2
    have HS : Hid (Srch w1.heap.size sb mb (.slice a p.length cap) w2 v F []) := hS
    have HPF : Hid (∀ c : Nat, decide (((wh, (c : Int), 0) : Fd) ∈ F) = PB c) := HPB.out F hF
    have FG : Hid (FarS sb mb w2 v (A + 1)) := FarS.low hS (by omega)
    obtain ⟨p2, _⟩ := P2.out.g0
    clear hsr hS hF hb2 P1 G1 p1 HPB
    go_wp2
    go_loopw [5, 18] (fun x y wr => ∃ k : Nat, k ≤ p.length ∧ y = .int .i64 (k : Int) ∧ Hid (Grow A wr x (risL PB k)) ∧ Hid (Srch w1.heap.size sb mb (.slice a p.length cap) wr v F []) ∧ Hid (∀ g, x.ownBlock = some g → FarS sb mb wr v g) ∧ Below A w wr) (fun _ y _ => p.length - (intOf y).toNat)
    case atStart => exact ⟨0, Nat.zero_le _, rfl, G2.out, HS.out, fun g hg => by simp [Value.ownBlock] at hg; subst hg; exact FG.out, hw2⟩
    case round =>
      clear G2 HS FG p2 P2
      obtain ⟨k, hk, rfl, hg, hS, hfar, hb⟩ := hrel
      obtain ⟨ga, ca, rfl⟩ := hg.out.form
      by_cases hlt : k < p.length
      · have hki : (k : Int) < (p.length : Int) := by omega
        have hhas := has_at w1.heap.size sb mb (.slice a p.length cap) v F [] (wh, (k : Int), 0) (FewF.wf ⟨h0, h4, by dsimp only; omega, by dsimp only; omega, by dsimp only; omega, by dsimp only; omega⟩) wr hS.out
        rw [HPF.out k] at hhas
        have HLN : Hid ((risL PB k).length ≤ k) := risL_len PB k
        have HST : Hid (risL PB (k + 1) = risL PB k ++ (if PB k then [(k : Int)] else [])) := risL_succ PB k
        go_wp2_with fail
        refine hhas.mono ?_
        rintro e w3 ⟨rfl, hb3⟩
        have hg3 : Hid (Grow A w3 (.slice (some ⟨ga, 0, none⟩) (risL PB k).length ca) (risL PB k)) := hg.out.on hb3
        have hS3 : Hid (Srch w1.heap.size sb mb (.slice a p.length cap) w3 v F []) := hS.out.on hb3
        have hfar3 : Hid (FarS sb mb w3 v ga) := (hfar.out ga rfl).on hb3.size
        have hw3 : Below A w w3 := hb.trans (hb3.mono (by have := hb.size; omega))
        clear hhas hg hS hfar hb3
        generalize PB k = bq at *
        cases bq
        · have HG : Hid (Grow A w3 (.slice (some ⟨ga, 0, none⟩) (risL PB k).length ca) (risL PB (k + 1))) := by show Grow _ _ _ _; rw [HST.out]; simpa using hg3.out
          clear HST
          go_wp2
          go_roundw
          case rel => exact ⟨k + 1, by omega, by go_num, HG.out, hS3.out, fun g hg => by simp [Value.ownBlock] at hg; subst hg; exact hfar3.out, hw3⟩
          case measure => simp [intOf]; omega
        · have HB : Hid (A ≤ w3.heap.size) := by show _ ≤ _; have := hw3.size; omega
          go_wp2_with (at_builtin; refine wpList_append_own_at _ rfl _ _ 26 rfl A 2 i0 (.int .i64 0) 1 8 Tryz.underlying26 hif hz0 hz1 hz2 rfl (by decide) _ _ _ rfl (hg3.out.1.alloc _) ⟨w3.heap.size, 0, none⟩ 1 1 [.int .i64 (k : Int)] rfl rfl (cell_one_new _ _ _) (by simp [Value.oneCell']) (by have := HLN.out; unfold maxLen; omega) (by have := HLN.out; omega) (by have := HB.out; simp; omega) ?_)
          intro v1 w4 hown1 hgrow1 hnil1 hat1
          have hb4 : Below A w w4 := (hw3.alloc (by have := HB.out; omega) _).grown hgrow1 (by have := HB.out; simp; omega) (fun q hq => by simp [Value.ownBlock] at hq; subst hq; exact (hg3.out.1.lt ga rfl).1)
          have HG : Hid (Grow A w4 v1 (risL PB (k + 1))) := by
            show Grow _ _ _ _
            rw [HST.out]
            exact grow_next hown1 (fun h => by first | exact hnil1 h | exact absurd (hnil1.1 h).1 (by simp))
          have hbA : Below w3.heap.size w3 (w3.alloc (.cells #[.int .i64 (k : Int)] 2)) := (Below.refl _ _).alloc (Nat.le_refl _) _
          have HS4 : Hid (Srch w1.heap.size sb mb (.slice a p.length cap) w4 v F []) := (hS3.out.on hbA).grownG hgrow1 (fun r e => by simp [Value.ownBlock] at e; subst e; exact ⟨hfar3.out.s, hfar3.out.m, hfar3.out.v⟩)
          have HF4 : Hid (∀ g, v1.ownBlock = some g → FarS sb mb w4 v g) := fun g e => by
            have hl := (hown1.lt g e).2
            rcases hat1 with h | h
            · rw [h] at e; simp [Value.ownBlock] at e; subst e; exact ⟨hfar3.out.s, hfar3.out.m, hfar3.out.v, hl⟩
            · rw [h] at e
              have e' : (w3.alloc (.cells #[.int .i64 (k : Int)] 2)).heap.size = g := by simpa using e
              simp at e'
              exact hS3.out.far (by omega) hl
          clear hown1 hgrow1 hnil1 hat1 hg3 hS3 hfar3 HST hbA
          go_wp2
          go_roundw
          case rel => exact ⟨k + 1, by omega, by go_num, HG.out, HS4.out, HF4.out, hb4⟩
          case measure => simp [intOf]; omega
      · obtain rfl : k = p.length := by omega
        have HG : Hid (Grow A wr (.slice (some ⟨ga, 0, none⟩) (risL PB p.length).length ca) (fndL PB p)) := by show Grow _ _ _ _; rw [← HSIX.out]; exact hg.out
        go_wp2
        go_ret
        exact ⟨_, rfl, HG.out, hb⟩
end Pg
end Go.Proofs.YtinanjjhkddikaaGreat

/- The program's Made and Needed: the answers. -/
namespace Go.Proofs.YtinanjjhkddikaaGreat
namespace Pg
open Go.ChangeShapes Go.WideShapes Go.ChangeAt Go.RowKit St Wd
theorem madL_len (p : Prg) : (madL p).length ≤ 24 := by
  unfold madL
  split
  · have := risL_len (madB p) 6; omega
  · simp
theorem ndL_len (p : Prg) : (ndL p).length ≤ 24 := by
  unfold ndL
  split
  · have := risL_len (ndB p) 6; omega
  · simp
theorem livR_len (p : Prg) : (livR p).length ≤ 120 := by
  unfold livR
  split
  · exact risL_len (livB p) 120
  · simp
set_option maxHeartbeats 1000000 in
theorem implMade (Bp : Nat) (p : Prg) (a : Option Addr) (cap : Nat) (hsp : SmallP p) (w : World) (hp : SK front Bp w (.slice a p.length cap) p) :
    Calls Tryz.prog 10 #[.agg #[.slice a p.length cap]] w fun e w' => ∃ v, e = .returned v ∧ Grow w.heap.size w' v (madL p) ∧ Below w.heap.size w w' := by
  obtain ⟨W, hW⟩ : ∃ W, W = w.alloc (.cells #[.slice a p.length cap] 30) := ⟨_, rfl⟩
  have hwW : Below w.heap.size w W := by rw [hW]; exact (Below.refl _ _).alloc (Nat.le_refl _) _
  have hcall := classesFound_at Bp p hsp cap a 0 (by decide) (by decide) (madB p) (fun _ F hF c => by rw [Bool.eq_iff_iff, decide_eq_true_iff, madB_iff]; exact hF.made c) (fun hok c hc => (rd_there hok (madB_iff.1 hc)).1 rfl) W (SK.on hp (Keep.of hwW))
  have HE : Hid (fndL (madB p) p = madL p) := rfl
  have p0 : (w.alloc (.cells #[.slice a p.length cap] 30)).cell? ⟨w.heap.size, 0, none⟩ = some (.slice a p.length cap) := ((Cells.new w _ rfl [.slice a p.length cap] 30 : Cells _ w.heap.size _)).g0.1
  clear hp
  go_enter Tryz.func10, Tryz.ntmps10
  go_wp2_with fail
  rw [← hW]
  clear p0
  refine hcall.mono ?_
  rintro e w1 ⟨v, rfl, hg, hb⟩
  rw [HE.out] at hg
  have HG : Hid (Grow w.heap.size w1 v (madL p)) := hg.base' hwW.size
  have hw1 : Below w.heap.size w w1 := below_over hwW hb
  clear hg hb hcall hW
  go_wp2
  go_ret
  exact ⟨_, rfl, HG.out, hw1⟩
set_option maxHeartbeats 1000000 in
theorem implNeeded (Bp : Nat) (p : Prg) (a : Option Addr) (cap : Nat) (hsp : SmallP p) (w : World) (hp : SK front Bp w (.slice a p.length cap) p) :
    Calls Tryz.prog 19 #[.agg #[.slice a p.length cap]] w fun e w' => ∃ v, e = .returned v ∧ Grow w.heap.size w' v (ndL p) ∧ Below w.heap.size w w' := by
  obtain ⟨W, hW⟩ : ∃ W, W = w.alloc (.cells #[.slice a p.length cap] 30) := ⟨_, rfl⟩
  have hwW : Below w.heap.size w W := by rw [hW]; exact (Below.refl _ _).alloc (Nat.le_refl _) _
  have hcall := classesFound_at Bp p hsp cap a 3 (by decide) (by decide) (ndB p) (fun _ F hF c => by rw [Bool.eq_iff_iff, decide_eq_true_iff, ndB_iff]; exact hF.need c) (fun hok c hc => nd_there hok (ndB_iff.1 hc)) W (SK.on hp (Keep.of hwW))
  have HE : Hid (fndL (ndB p) p = ndL p) := rfl
  have p0 : (w.alloc (.cells #[.slice a p.length cap] 30)).cell? ⟨w.heap.size, 0, none⟩ = some (.slice a p.length cap) := ((Cells.new w _ rfl [.slice a p.length cap] 30 : Cells _ w.heap.size _)).g0.1
  clear hp
  go_enter Tryz.func19, Tryz.ntmps19
  go_wp2_with fail
  rw [← hW]
  clear p0
  refine hcall.mono ?_
  rintro e w1 ⟨v, rfl, hg, hb⟩
  rw [HE.out] at hg
  have HG : Hid (Grow w.heap.size w1 v (ndL p)) := hg.base' hwW.size
  have hw1 : Below w.heap.size w w1 := below_over hwW hb
  clear hg hb hcall hW
  go_wp2
  go_ret
  exact ⟨_, rfl, HG.out, hw1⟩
end Pg
end Go.Proofs.YtinanjjhkddikaaGreat
