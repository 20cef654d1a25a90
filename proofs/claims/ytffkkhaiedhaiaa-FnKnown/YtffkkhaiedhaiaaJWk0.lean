/- Contracts: the draws of the law of the ways, and the program of one code. -/
import Derived.Test.YtffkkhaiedhaiaaJWp0
import Derived.Test.YtffkkhaiedhaiaaJRs0
import Derived.Test.YtffkkhaiedhaiaaJKp0
import Derived.Test.YtffkkhaiedhaiaaJMw0
import Derived.Test.YtffkkhaiedhaiaaJKw1
namespace Go.Proofs.Ytffkkhaiedhaiaa
namespace Pg
open Go.ChangeShapes Go.WideShapes Go.ChangeAt Go.RowKit St

set_option maxHeartbeats 800000 in
theorem drawCodeW_at (B : Nat) (w : World) (a : Option Addr) (len cap : Nat) (hB : Cu.Bytes B w a len) (hs : B ≤ w.heap.size) :
    Calls Try.prog 41 #[.slice a len cap] w fun e w' => ∃ g cl l, e = .returned (.slice (some ⟨g, 0, none⟩) l.length cl) ∧ Row w' g 0 l ∧ Room w' g (l.length * 3) ∧ g < w'.heap.size ∧ l.length ≤ 41 ∧ Below w.heap.size w w' := by
  go_enter Try.func41, Try.ntmps41
  go_wp2_with fail
  refine (Cu.new_at B _ a len cap hB hs).mono ?_
  rintro e w1 ⟨c, rfl, hc, hb1, h1⟩
  have H1 : Hid (Cu.Cur B w1 c a len cap) := h1
  clear h1 hB
  go_wp2_with fail
  refine (Cu.drawAnyC_cur B c _ a len cap H1.out).mono ?_
  rintro e w2 ⟨x, l, rfl, ⟨g, cl, rfl, hg1, hg2, hr2, hm2⟩, hl, hf, h2⟩
  have H2 : Hid (Cu.At B w1 w2 c a len cap) := h2
  have HR2 : Hid (Row w2 g 0 l) := hr2
  have HM2 : Hid (Room w2 g (l.length * 3)) := hm2
  clear hr2 h2 hf hm2
  go_wp2
  go_ret
  exact ⟨g, cl, l, rfl, HR2.out, HM2.out, hg2, hl, H2.out.below hb1 hc⟩
set_option maxRecDepth 100000 in
set_option maxHeartbeats 1000000 in
theorem withMain_at (g cl : Nat) (l : List Tx.Ins) (w : World) (hr : Row w g 0 l) (hm : Room w g (l.length * 3)) (hg : g < w.heap.size) :
    Calls Try.prog 21 #[.slice (some ⟨g, 0, none⟩) l.length cl] w fun e w' => ∃ b, e = .returned (.agg #[.slice (some ⟨b, 0, none⟩) 1 1]) ∧ SK front 0 w' (.slice (some ⟨b, 0, none⟩) (mainP l).length 1) (mainP l) ∧ Below w.heap.size w w' := by
  have HR : Hid (Row w g 0 l) := hr
  have HM : Hid (Room w g (l.length * 3)) := hm
  clear hr hm
  go_enter Try.func21, Try.ntmps21
  go_wp2
  obtain ⟨V, hV⟩ : ∃ V, V = (((w.alloc (.cells #[.slice (some ⟨w.heap.size + 1 + 1 + 1, 0, none⟩) 1 1] 39)).alloc (.cells #[.int .i64 (-1)] 2)).alloc (.cells #[.int .i64 0, .slice none 0 0, .int .i64 (-1), .slice (some ⟨g, 0, none⟩) l.length cl] 78)).alloc (.cells #[.int .i64 (-1), .slice (some ⟨w.heap.size + 1, 0, none⟩) 1 1, .slice (some ⟨w.heap.size + 1 + 1, 0, none⟩) 1 1] 81) := ⟨_, rfl⟩
  have hwV : Below w.heap.size w V := by rw [hV]; exact ((((Below.refl _ w).alloc (Nat.le_refl _) _).alloc (by simp) _).alloc (by simp; omega) _).alloc (by simp; omega) _
  have C0 : Cells V w.heap.size [.slice (some ⟨w.heap.size + 1 + 1 + 1, 0, none⟩) 1 1] := by rw [hV]; exact (((Cells.new w _ rfl _ _).alloc _).alloc _).alloc _
  have C1 : Cells V (w.heap.size + 1) [.int .i64 (-1)] := by rw [hV]; exact ((Cells.new (w.alloc _) _ (by simp) _ _).alloc _).alloc _
  have C2 : Cells V (w.heap.size + 1 + 1) [.int .i64 0, .slice none 0 0, .int .i64 (-1), .slice (some ⟨g, 0, none⟩) l.length cl] := by rw [hV]; exact (Cells.new ((w.alloc _).alloc _) _ (by simp) _ _).alloc _
  have C3 : Cells V (w.heap.size + 1 + 1 + 1) [.int .i64 (-1), .slice (some ⟨w.heap.size + 1, 0, none⟩) 1 1, .slice (some ⟨w.heap.size + 1 + 1, 0, none⟩) 1 1] := by rw [hV]; exact Cells.new (((w.alloc _).alloc _).alloc _) _ (by simp) _ _
  rw [← hV]
  clear hV
  obtain ⟨e0, _⟩ := C0.g0
  refine bodyPost_ret (v := .agg #[.slice (some ⟨w.heap.size + 1 + 1 + 1, 0, none⟩) 1 1]) (by simp [results, Try.results21, go_sem, e0]) rfl ?_
  refine ⟨w.heap.size + 1 + 1 + 1, rfl, ?_, hwV⟩
  have hI : SI true 0 V (.slice (some ⟨w.heap.size + 1, 0, none⟩) ([-1] : List Int).length 1) [-1] := SI.row (Nat.zero_le _) (cell_lt C1.g0.1) (fun j x hj => by
    match j, hj with
    | 0, hj => simp at hj; subst hj; exact C1.g0.1
    | j + 1, hj => simp at hj) (fun j hj => by
    match j, hj with
    | 0, _ => exact ⟨⟨_, C1.g0.1⟩, C1.g0.2⟩
    | j + 1, hj => simp at hj)
  have hC : CS 0 V (.slice (some ⟨g, 0, none⟩) l.length cl) l := ⟨g, cl, rfl, Nat.zero_le _, Nat.lt_of_lt_of_le hg hwV.size, HR.out.on hwV, HM.out.on hwV⟩
  have hM : SM front 0 V (.slice (some ⟨w.heap.size + 1 + 1, 0, none⟩) ([⟨0, [], -1, l⟩] : List Meth).length 1) [⟨0, [], -1, l⟩] := by
    refine ⟨_, 1, rfl, fun _ h => by simp at h, fun _ => ⟨w.heap.size + 1 + 1, 0, rfl, Nat.zero_le _, ⟨cell_lt C2.g0.1, fun _ j hj => ?_⟩, fun j x hj => ?_⟩⟩
    · match j, hj with
      | 0, _ => exact C2.g0.2
      | 1, _ => exact C2.g1.2
      | 2, _ => exact C2.g2.2
      | 3, _ => exact C2.g3.2
      | j + 4, hj => simp at hj; omega
    · match j, hj with
      | 0, hj =>
        simp at hj; subst hj
        exact ⟨_, _, C2.g0.1, C2.g1.1, C2.g2.1, C2.g3.1, SI.nil _ _ _, hC⟩
      | j + 1, hj => simp at hj
  refine ⟨_, 1, rfl, fun _ h => by simp at h, fun _ => ⟨w.heap.size + 1 + 1 + 1, 0, rfl, Nat.zero_le _, ⟨cell_lt C3.g0.1, fun _ j hj => ?_⟩, fun j x hj => ?_⟩⟩
  · match j, hj with
    | 0, _ => exact C3.g0.2
    | 1, _ => exact C3.g1.2
    | 2, _ => exact C3.g2.2
    | j + 3, hj => simp [mainP] at hj; omega
  · match j, hj with
    | 0, hj =>
      simp [mainP] at hj; subst hj
      exact ⟨_, _, C3.g0.1, C3.g1.1, C3.g2.1, hI, hM⟩
    | j + 1, hj => simp [mainP] at hj
end Pg
end Go.Proofs.Ytffkkhaiedhaiaa

/- What is known holds along the machine, plainly. -/
namespace Go.Proofs.Ytffkkhaiedhaiaa
namespace Pg
open Go.ChangeShapes Go.WideShapes Go.ChangeAt Go.RowKit St Wd

/-- How a step may turn the frames, with what becomes of the locals and what comes on top. -/
inductive Lkd (m : Mc) (f : Fr) (i : Tx.Ins) (r : Mc × Int) : Prop
  | ends (h : r.2 ≠ 0)
  | on (f' : Fr) (h0 : r.2 = 0) (h : r.1.frames = m.frames.dropLast ++ [f']) (hloc : (i.1 ≠ 3 ∧ f'.loc = f.loc) ∨ (i.1 = 3 ∧ f'.loc = f.loc.set i.2.1.toNat (topV f.stk))) (h1 : i.1 = 1 → topV f'.stk = (1, i.2.1)) (h2 : i.1 = 2 → topV f'.stk = (f.loc[i.2.1.toNat]?).getD (0, 0)) (hp : (f'.pos = f.pos + 1 ∧ i.1 ≠ 11 ∧ i.1 ≠ 20) ∨ (f'.pos = i.2.1 ∧ (i.1 = 11 ∨ i.1 = 12)))
  | call (f' : Fr) (g : Fr) (h0 : r.2 = 0) (h17 : i.1 = 17) (h : r.1.frames = (m.frames.dropLast ++ [f']) ++ [g]) (hp : f'.pos = f.pos) (hl : f'.loc = f.loc) (hg : g.pos = 0)
  | give (b b' : Fr) (h0 : r.2 = 0) (h20 : i.1 = 20) (hb : m.frames.dropLast.getLast? = some b) (h : r.1.frames = m.frames.dropLast.dropLast ++ [b']) (hl : b'.loc = b.loc) (hp : b'.pos = b.pos + 1)
theorem lkd_on {m : Mc} {f : Fr} {i : Tx.Ins} {m' : Mc} (hm : m'.frames = m.frames) {f1 : Fr} (t : Nat) (put : List Vl) {q : Int} (hloc : (i.1 ≠ 3 ∧ f1.loc = f.loc) ∨ (i.1 = 3 ∧ f1.loc = f.loc.set i.2.1.toNat (topV f.stk))) (h1 : i.1 = 1 → put = [(1, i.2.1)]) (h2 : i.1 = 2 → put = [(f.loc[i.2.1.toNat]?).getD (0, 0)])
    (hp : (q = f.pos + 1 ∧ i.1 ≠ 11 ∧ i.1 ≠ 20) ∨ (q = i.2.1 ∧ (i.1 = 11 ∨ i.1 = 12))) : Lkd m f i (onS m' f1 t put q) :=
  .on { f1 with stk := f1.stk.take (f1.stk.length - t) ++ put, pos := q } rfl (by simp [onS, withTop, hm]) hloc (fun h => by rw [h1 h]; simp [topV]) (fun h => by rw [h2 h]; simp [topV]) hp
theorem lkd_call (p : Prg) (m : Mc) (f : Fr) (i : Tx.Ins) (h17 : i.1 = 17) : Lkd m f i (callS p m f i.2.1 i.2.2) := by
  unfold callS
  split
  · exact .ends (by simp)
  · split
    · exact .ends (by simp)
    · split
      · exact .ends (by simp)
      · dsimp only
        split
        · exact .ends (by simp)
        · split
          · exact .ends (by simp)
          · split
            · exact .ends (by simp)
            · split
              · exact .ends (by simp)
              · exact .call { f with stk := f.stk.take _ } _ rfl h17 rfl rfl rfl rfl
theorem lkd_give (m : Mc) (f : Fr) (i : Tx.Ins) (h20 : i.1 = 20) (v : Vl) : Lkd m f i (giveS m v) := by
  unfold giveS
  split
  · exact .ends (by simp)
  · rename_i b hb
    split
    · exact .ends (by simp)
    · exact .give b _ rfl h20 hb rfl rfl rfl
theorem step_lkd (p : Prg) (m : Mc) (f : Fr) (own : Meth) (i : Tx.Ins) (h20 : i.1 ≤ 20) (h1 : 1 ≤ i.1) : Lkd m f i (stepI p m f own i) := by
  obtain ⟨op, A, B⟩ := i
  dsimp only at h20 h1
  unfold stepI
  dsimp only
  have onp : ∀ {m' : Mc} (hm : m'.frames = m.frames) (t : Nat) (put : List Vl), op ≠ 1 → op ≠ 2 → op ≠ 3 → op ≠ 11 → op ≠ 20 → Lkd m f (op, A, B) (onS m' f t put (f.pos + 1)) :=
    fun hm t put a1 a2 a3 a11 a20 => lkd_on hm t put (.inl ⟨a3, rfl⟩) (fun h => absurd h a1) (fun h => absurd h a2) (.inl ⟨rfl, a11, a20⟩)
  by_cases hst : f.stk.length < takesS op ∨ 8 < f.stk.length - takesS op + putsS op
  · rw [if_pos hst]; exact .ends (by simp)
  · rw [if_neg hst]
    by_cases e1 : op = 1
    · rw [if_pos e1]; exact lkd_on rfl _ _ (.inl ⟨(show op ≠ 3 by omega), rfl⟩) (fun _ => rfl) (fun h => absurd (show op = 2 from h) (by omega)) (.inl ⟨rfl, (show op ≠ 11 by omega), (show op ≠ 20 by omega)⟩)
    rw [if_neg e1]
    by_cases e2 : op = 2
    · rw [if_pos e2]; exact lkd_on rfl _ _ (.inl ⟨(show op ≠ 3 by omega), rfl⟩) (fun h => absurd (show op = 1 from h) (by omega)) (fun _ => rfl) (.inl ⟨rfl, (show op ≠ 11 by omega), (show op ≠ 20 by omega)⟩)
    rw [if_neg e2]
    by_cases e3 : op = 3
    · rw [if_pos e3]; exact lkd_on rfl _ _ (.inr ⟨e3, rfl⟩) (fun h => absurd (show op = 1 from h) (by omega)) (fun h => absurd (show op = 2 from h) (by omega)) (.inl ⟨rfl, (show op ≠ 11 by omega), (show op ≠ 20 by omega)⟩)
    rw [if_neg e3]
    by_cases e4 : op = 4 ∨ op = 5 ∨ op = 6 ∨ op = 7
    · rw [if_pos e4]
      split
      · exact .ends (by simp)
      · split
        · exact .ends (by simp)
        · exact onp rfl _ _ e1 e2 e3 (by omega) (by omega)
    rw [if_neg e4]
    by_cases e8 : op = 8
    · rw [if_pos e8]; exact onp rfl _ _ e1 e2 e3 (by omega) (by omega)
    rw [if_neg e8]
    by_cases e9 : op = 9
    · rw [if_pos e9]; exact onp rfl _ _ e1 e2 e3 (by omega) (by omega)
    rw [if_neg e9]
    by_cases e10 : op = 10
    · rw [if_pos e10]; exact onp rfl _ _ e1 e2 e3 (by omega) (by omega)
    rw [if_neg e10]
    by_cases e11 : op = 11
    · rw [if_pos e11]; exact lkd_on rfl _ _ (.inl ⟨e3, rfl⟩) (fun h => absurd h e1) (fun h => absurd h e2) (.inr ⟨rfl, .inl e11⟩)
    rw [if_neg e11]
    by_cases e12 : op = 12
    · rw [if_pos e12]
      split
      · exact .ends (by simp)
      · split
        · exact lkd_on rfl _ _ (.inl ⟨e3, rfl⟩) (fun h => absurd h e1) (fun h => absurd h e2) (.inr ⟨rfl, .inr e12⟩)
        · exact onp rfl _ _ e1 e2 e3 (by omega) (by omega)
    rw [if_neg e12]
    by_cases e13 : op = 13
    · rw [if_pos e13]; exact onp rfl _ _ e1 e2 e3 (by omega) (by omega)
    rw [if_neg e13]
    by_cases e14 : op = 14
    · rw [if_pos e14]
      split
      · exact .ends (by simp)
      · split
        · exact .ends (by simp)
        · exact onp (by rfl) _ _ e1 e2 e3 (by omega) (by omega)
    rw [if_neg e14]
    by_cases e15 : op = 15
    · rw [if_pos e15]
      split
      · exact .ends (by simp)
      · split
        · exact .ends (by simp)
        · split
          · exact .ends (by simp)
          · split
            · exact .ends (by simp)
            · exact onp rfl _ _ e1 e2 e3 (by omega) (by omega)
    rw [if_neg e15]
    by_cases e16 : op = 16
    · rw [if_pos e16]
      split
      · exact .ends (by simp)
      · split
        · exact .ends (by simp)
        · split
          · exact .ends (by simp)
          · split
            · exact .ends (by simp)
            · exact onp (by rfl) _ _ e1 e2 e3 (by omega) (by omega)
    rw [if_neg e16]
    by_cases e17 : op = 17
    · rw [if_pos e17]; exact lkd_call p m f (op, A, B) e17
    rw [if_neg e17]
    by_cases e18 : op = 18
    · rw [if_pos e18]
      split
      · exact .ends (by simp)
      · exact onp rfl _ _ e1 e2 e3 (by omega) (by omega)
    rw [if_neg e18]
    by_cases e19 : op = 19
    · rw [if_pos e19]
      split
      · exact .ends (by simp)
      · exact onp (by rfl) _ _ e1 e2 e3 (by omega) (by omega)
    rw [if_neg e19]
    split
    · exact .ends (by simp)
    · exact lkd_give m f (op, A, B) (show op = 20 by omega) _

/-- The locals are as is known ahead of step i. -/
def LocK (K : Kw) (i : Nat) (loc : List Vl) : Prop := ∀ s, s < 8 → ∃ v, K i s = some v ∧ (v = UnK ∨ loc[s]? = some (1, v))
/-- On top lies what the step ahead of i has put there, where one comes from it alone. -/
def TopK (a : List Tx.Ins) (i : Nat) (stk loc : List Vl) : Prop := ∀ k, i = k + 1 → ldB a a.length i = false → ((insF a k).1 = 1 → topV stk = (1, (insF a k).2.1)) ∧ ((insF a k).1 = 2 → topV stk = (loc[(insF a k).2.1.toNat]?).getD (0, 0))
theorem le_loc {x : Int} {o : Option Int} (h : leO (some x) o) {P : Int → Prop} (hx : x = UnK ∨ P x) : ∃ v, o = some v ∧ (v = UnK ∨ P v) := by
  rcases h with h | h | h
  · simp at h
  · exact ⟨UnK, h, .inl rfl⟩
  · exact ⟨x, h.symm, hx⟩
theorem loc_on {a : List Tx.Ins} {K : Kw} (hK : SolK a K) {i t : Nat} (hi : i < a.length) (ht : nxB a i t = true) {loc : List Vl} (h : LocK K i loc) (h3 : (insF a i).1 ≠ 3) : LocK K t loc := fun s hs => by
  obtain ⟨v, hv, hx⟩ := h s hs
  exact le_loc (hK.2 i hi s hs v hv s v (by omega) (by unfold tellsF; rw [if_pos h3]; simp) t ht) hx
theorem loc_store {a : List Tx.Ins} (hok : Lay.codeOk a = true) {K : Kw} (hK : SolK a K) {i t : Nat} (hi : i < a.length) (ht : nxB a i t = true) {loc stk : List Vl} (h8 : loc.length = 8) (h : LocK K i loc) (htop : TopK a i stk loc) (h3 : (insF a i).1 = 3) :
    LocK K t (loc.set (insF a i).2.1.toNat (topV stk)) := fun s hs => by
  have hA := op3_A hok hi (.inl h3)
  obtain ⟨v, hv, hx⟩ := h s hs
  by_cases hsA : (s : Int) = (insF a i).2.1
  · have eA : (insF a i).2.1.toNat = s := by omega
    have hset : (loc.set (insF a i).2.1.toNat (topV stk))[s]? = some (topV stk) := by rw [eA, List.getElem?_set_self (by omega)]
    rw [hset]
    have htell : ∀ s', s' < 8 → ∀ v', K i s' = some v' → ∀ x, (((s : Nat) : Int), x) ∈ tellsF a i s' v' → leO (some x) (K t s) := fun s' hs' v' hv' x hx => hK.2 i hi s' hs' v' hv' s x (by omega) hx t ht
    by_cases hst2 : (storedF a i).1 = 2
    · have hl : ldB a a.length i = false := by
        cases hl : ldB a a.length i
        · rfl
        · unfold storedF at hst2; rw [hl] at hst2; simp at hst2
      have h0 : 0 < i := by
        rcases Nat.eq_zero_or_pos i with e | e
        · rw [e, ld_first] at hl; simp at hl
        · exact e
      obtain ⟨k, rfl⟩ : ∃ k, i = k + 1 := ⟨i - 1, by omega⟩
      have hsf : storedF a (k + 1) = insF a k := by
        unfold storedF at hst2 ⊢
        simp only [hl, Nat.add_sub_cancel] at hst2 ⊢
        split at hst2
        · rename_i hf; simp at hf
        · split at hst2
          · rename_i hc; simp [hc]
          · simp at hst2
      have o2 : (insF a k).1 = 2 := by rw [← hsf]; exact hst2
      have hB := op3_A hok (show k < a.length by omega) (.inr o2)
      obtain ⟨v0, hv0, hx0⟩ := h (insF a k).2.1.toNat (by omega)
      refine le_loc (htell (insF a k).2.1.toNat (by omega) v0 hv0 v0 ?_) ?_
      · unfold tellsF
        rw [if_neg (by omega)]
        simp only [List.mem_append]
        refine .inl (.inr ?_)
        rw [hsf, if_pos ⟨o2, by omega⟩]
        simp; omega
      · rcases hx0 with hx0 | hx0
        · exact .inl hx0
        · refine .inr ?_
          rw [(htop k rfl hl).2 o2, hx0]
          rfl
    · have hst1 : (storedF a i).1 = 1 := by
        unfold storedF at hst2 ⊢
        split
        · rfl
        · rename_i hl
          rw [if_neg hl] at hst2
          split
          · rename_i hc
            rw [if_pos hc] at hst2
            omega
          · rfl
      refine le_loc (htell s hs v hv (storedF a i).2.1 ?_) ?_
      · unfold tellsF
        rw [if_neg (by omega)]
        simp only [List.mem_append]
        refine .inr ?_
        rw [if_pos ⟨hst1, by omega⟩]
        simp; omega
      · cases hl : ldB a a.length i
        · have h0 : 0 < i := by
            rcases Nat.eq_zero_or_pos i with e | e
            · rw [e, ld_first] at hl; simp at hl
            · exact e
          obtain ⟨k, rfl⟩ : ∃ k, i = k + 1 := ⟨i - 1, by omega⟩
          by_cases o1 : (insF a k).1 = 1
          · have hsf : storedF a (k + 1) = insF a k := by
              unfold storedF
              simp [hl, o1]
            rw [hsf, (htop k rfl hl).1 o1]
            exact .inr rfl
          · left
            unfold storedF at hst2 ⊢
            simp only [hl, Nat.add_sub_cancel] at hst2 ⊢
            by_cases o2 : (insF a k).1 = 2
            · simp [o2] at hst2
            · simp [o1, o2]
        · left
          unfold storedF
          simp [hl]
  · have hset : (loc.set (insF a i).2.1.toNat (topV stk))[s]? = loc[s]? := by rw [List.getElem?_set_ne (by omega)]
    rw [hset]
    refine le_loc (hK.2 i hi s hs v hv s v (by omega) ?_ t ht) hx
    unfold tellsF
    rw [if_neg (by omega)]
    simp only [List.mem_append]
    refine .inl (.inl ?_)
    rw [if_pos hsA]
    simp
/-- What is known holds of all frames. -/
structure KnwI (a : List Tx.Ins) (K : Kw) (m : Mc) : Prop where
  all : ∀ f ∈ m.frames, f.pos < (a.length : Int) → LocK K f.pos.toNat f.loc
  top : ∀ f, m.frames.getLast? = some f → f.pos < (a.length : Int) → TopK a f.pos.toNat f.stk f.loc
theorem KnwI.start {a : List Tx.Ins} {K : Kw} (hK : SolK a K) : KnwI a K (startM (mainP a)) := by
  refine ⟨fun f hf _ => ?_, fun f hf _ => ?_⟩
  · simp only [startM, List.mem_singleton] at hf
    subst hf
    exact fun s hs => ⟨UnK, hK.1 s hs, .inl rfl⟩
  · simp only [startM, List.getLast?_singleton, Option.some.injEq] at hf
    subst hf
    intro k hk
    exact absurd hk (by simp)
theorem known_step {a : List Tx.Ins} (hok : Lay.codeOk a = true) {K : Kw} (hS : SolK a K) {m : Mc} (h : WayI a m) (hK : KnwI a K m) (h8 : ∀ f ∈ m.frames, f.loc.length = 8) {f : Fr} (hl : m.frames.getLast? = some f) (h0 : (stepS (mainP a) m).2 = 0) : KnwI a K (stepS (mainP a) m).1 := by
  have hsp := last_split hl
  have hfm : f ∈ m.frames := by rw [hsp]; simp
  obtain ⟨f1, f2, f3, f4⟩ := h.all f hfm
  have hfl : f.pos < (a.length : Int) := by
    rcases Int.lt_or_le f.pos a.length with h1 | h1
    · exact h1
    · rw [way_end hl h1] at h0; simp at h0
  obtain ⟨k, hk⟩ := Int.eq_ofNat_of_zero_le f3
  have hkl : k < a.length := by omega
  have hkn : f.pos.toNat = k := by omega
  have hlk : LocK K k f.loc := by rw [← hkn]; exact hK.all f hfm hfl
  have htk : TopK a k f.stk f.loc := by rw [← hkn]; exact hK.top f hl hfl
  have hstep : ∃ own, stepS (mainP a) m = stepI (mainP a) m f own (insF a k) := by
    unfold stepS at h0 ⊢
    rw [hl] at h0 ⊢
    dsimp only at h0 ⊢
    split
    · rename_i hn; rw [hn] at h0; simp at h0
    · rename_i own ho
      obtain ⟨_, _, rfl⟩ := own_main ho
      refine ⟨⟨0, [], -1, a⟩, ?_⟩
      rw [if_neg (by dsimp only; omega), hkn]
      unfold insF
      rw [List.getD_eq_getElem?_getD]
  obtain ⟨own, hs⟩ := hstep
  have hop := Lay.ok_at hok (ins_is hkl)
  have hop2 := Tx.ok_op hop
  rw [hs] at h0 ⊢
  have hdl : ∀ g ∈ m.frames.dropLast, g ∈ m.frames := fun g hg => mem_dropLast hg
  cases step_lkd (mainP a) m f own (insF a k) hop2.2 hop2.1 with
  | ends he => exact absurd h0 he
  | on f' _ hfr hloc ht1 ht2 hp =>
    have hpos : 0 ≤ f'.pos ∧ (f'.pos < (a.length : Int) → nxB a k f'.pos.toNat = true) := by
      rcases hp with ⟨hp, h11, h20⟩ | ⟨hp, hj⟩
      · refine ⟨by omega, fun hlt => ?_⟩
        rw [show f'.pos.toNat = k + 1 by omega]
        exact nx_next (by omega) h11 h20
      · have := jump_in hok hkl hj
        refine ⟨by omega, fun _ => ?_⟩
        rw [hp]
        exact nx_jump hok hkl hj
    have hloc' : f'.pos < (a.length : Int) → LocK K f'.pos.toNat f'.loc := fun hlt => by
      rcases hloc with ⟨h3, e⟩ | ⟨h3, e⟩
      · rw [e]; exact loc_on hS hkl (hpos.2 hlt) hlk h3
      · rw [e]; exact loc_store hok hS hkl (hpos.2 hlt) (h8 f hfm) hlk htk h3
    refine ⟨fun g hg hlt => ?_, fun g hg hlt => ?_⟩
    · rw [hfr] at hg
      rcases List.mem_append.1 hg with hg | hg
      · exact hK.all g (hdl g hg) hlt
      · simp at hg; subst hg
        exact hloc' hlt
    · rw [hfr, List.getLast?_concat] at hg
      injection hg with hg
      subst hg
      intro k' hk' hld
      have hfo := fall_only hok hkl (hpos.2 hlt) hld
      have e : k' = k := by omega
      subst e
      refine ⟨ht1, fun e2 => ?_⟩
      rw [ht2 e2]
      rcases hloc with ⟨_, e⟩ | ⟨h3, _⟩
      · rw [e]
      · omega
  | call f' g _ h17 hfr hp hll hg =>
    refine ⟨fun x hx hlt => ?_, fun x hx hlt => ?_⟩
    · rw [hfr] at hx
      rcases List.mem_append.1 hx with hx | hx
      · rcases List.mem_append.1 hx with hx | hx
        · exact hK.all x (hdl x hx) hlt
        · simp at hx; subst hx
          rw [hp, hll, hkn]; exact hlk
      · simp at hx; subst hx
        rw [hg]
        exact fun s hs => ⟨UnK, hS.1 s hs, .inl rfl⟩
    · rw [hfr, List.getLast?_concat] at hx
      injection hx with hx
      subst hx
      intro k' hk'
      rw [hg] at hk'
      simp at hk'
  | give b b' _ h20 hb hfr hll hp =>
    have hbl := last_split hb
    have hbm : b ∈ m.frames.dropLast := by rw [hbl]; simp
    obtain ⟨b1, b2, b3, b4⟩ := h.all b (hdl b hbm)
    obtain ⟨b5, b6⟩ := h.low b hbm
    refine ⟨fun x hx hlt => ?_, fun x hx hlt => ?_⟩
    · rw [hfr] at hx
      rcases List.mem_append.1 hx with hx | hx
      · exact hK.all x (hdl x (mem_dropLast hx)) hlt
      · obtain rfl : x = b' := by simpa using hx
        have hnx : nxB a b.pos.toNat (b.pos.toNat + 1) = true := nx_next (by omega) (by rw [b6]; decide) (by rw [b6]; decide)
        rw [show x.pos.toNat = b.pos.toNat + 1 by omega, hll]
        exact loc_on hS (by omega) hnx (hK.all b (hdl b hbm) b5) (by rw [b6]; decide)
    · rw [hfr, List.getLast?_concat] at hx
      injection hx with hx
      subst hx
      intro k' hk' _
      have e : k' = b.pos.toNat := by omega
      subst e
      rw [b6]
      exact ⟨fun h => by simp at h, fun h => by simp at h⟩
end Pg
end Go.Proofs.Ytffkkhaiedhaiaa

/- Contracts: what the law of what is known wants beside the machine: its draw, rows of rows compared, Known with the least that there is. -/
namespace Go.Proofs.Ytffkkhaiedhaiaa
namespace Pg
open Go.ChangeShapes Go.WideShapes Go.ChangeAt Go.RowKit St Wd

set_option maxHeartbeats 800000 in
theorem drawKnown_at (B : Nat) (w : World) (a : Option Addr) (len cap : Nat) (hB : Cu.Bytes B w a len) (hs : B ≤ w.heap.size) :
    Calls Try.prog 30 #[.slice a len cap] w fun e w' => ∃ g cl l, e = .returned (.slice (some ⟨g, 0, none⟩) l.length cl) ∧ Row w' g 0 l ∧ Room w' g (l.length * 3) ∧ g < w'.heap.size ∧ l.length ≤ 41 ∧ Below w.heap.size w w' := by
  have HB : Hid (Cu.Bytes B w a len) := hB
  clear hB
  go_enter Try.func30, Try.ntmps30
  go_wp2_with fail
  refine (drawCodeW_at B _ a len cap HB.out hs).mono ?_
  rintro e w1 ⟨g, cl, l, rfl, hr, hm, hg, hl, hb⟩
  have HR : Hid (Row w1 g 0 l) := hr
  have HM : Hid (Room w1 g (l.length * 3)) := hm
  clear hr hm
  go_wp2
  go_ret
  exact ⟨g, cl, l, rfl, HR.out, HM.out, hg, hl, hb⟩
set_option maxRecDepth 100000 in
set_option maxHeartbeats 1000000 in
theorem likeSS (n G G' c c' : Nat) (hn : n ≤ 41) (K : Kw) (hall : AllK n K) (f cp f' cp' : Nat → Nat) (B B' : Nat) (w : World) (h1 : RowsK B w G n K f cp) (h2 : RowsK B' w G' n K f' cp') :
    Calls Try.prog 32 #[.slice (some ⟨G, 0, none⟩) n c, .slice (some ⟨G', 0, none⟩) n c'] w fun e w' => e = .returned (.bool true) ∧ Below w.heap.size w w' := by
  have H1 : Hid (RowsK B w G n K f cp) := h1
  have H2 : Hid (RowsK B' w G' n K f' cp') := h2
  have HA : Hid (AllK n K) := hall
  clear h1 h2 hall
  go_enter Try.func32, Try.ntmps32
  go_wp2
  go_loopw [5] (fun i wr => ∃ k : Nat, k ≤ n ∧ i = .int .i64 (k : Int) ∧ Below w.heap.size w wr) (fun i _ => n - (intOf i).toNat)
  case atStart => exact ⟨0, Nat.zero_le _, rfl, Below.refl _ _⟩
  case round =>
    obtain ⟨k, hk, rfl, hb⟩ := hrel
    by_cases hlt : k < n
    · have hki : (k : Int) < (n : Int) := by omega
      have r1 := H1.out.on hb
      have r2 := H2.out.on hb
      have hr := HA.out k 0 hlt (by omega)
      have c1 := head_at r1 hlt hr
      have c2 := head_at r2 hlt hr
      have I1 : Hid (IRow wr (f k) 0 (rowL K k)) := cells_irow (r1.2.2.1 k hlt hr).2.2.2
      have I2 : Hid (IRow wr (f' k) 0 (rowL K k)) := cells_irow (r2.2.2.1 k hlt hr).2.2.2
      have hl8 : (rowL K k).length = 8 := rowL_len K k
      have hcall := fun u (h1 : IRow u (f k) 0 (rowL K k)) (h2 : IRow u (f' k) 0 (rowL K k)) => likeSame (f k) (f' k) (cp k) (cp' k) (rowL K k) (by rw [hl8]; omega) u h1 h2
      rw [hl8] at hcall
      clear r1 r2 hr hl8
      have q1 := cell_regrown c1
      have q2 := cell_regrown c2
      have cQ : ∀ d os, Calls Try.prog 14 #[.slice (some ⟨f k, 0, none⟩) 8 (cp k), .slice (some ⟨f' k, 0, none⟩) 8 (cp' k)] (Sort.grow (redrawn wr d) os) fun e w'' => e = .returned (.bool true) ∧ ∃ p : Regrown, w'' = Sort.grow (redrawn wr p.d) p.os := fun d os => (hcall _ (I1.out.on (below_regrown wr d os)) (I2.out.on (below_regrown wr d os))).regrown_of
      clear hcall
      go_upto_region 6 with fail
      refine wp_region_quiet_below (by kernel_rfl) (by kernel_rfl) ?_
      repeat (go_big_quiet_step ((go_at_call 14; exact cQ _ _)))
      refine wpQuiet_nil ?_
      intro _ hw'
      obtain ⟨⟨dq, osq⟩, hw''⟩ := hw'
      subst hw''
      have hbQ : Below w.heap.size w (Sort.grow (redrawn wr dq) osq) := below_over hb (below_regrown wr dq osq)
      clear q1 q2 cQ c1 c2 I1 I2 hb
      generalize Sort.grow (redrawn wr dq) osq = W5 at *
      go_wp2
      go_roundw
      case rel => exact ⟨k + 1, by omega, by go_num, hbQ⟩
      case measure => simp [intOf]; omega
    · obtain rfl : k = n := by omega
      go_wp2
      go_ret
      exact ⟨rfl, hb⟩
set_option maxRecDepth 100000 in
set_option maxHeartbeats 1000000 in
theorem specKnownL (g cap : Nat) (l : List Tx.Ins) (hl : l.length ≤ 1048576) (w : World) (hr : Row w g 0 l) :
    Calls Try.prog 33 #[.slice (some ⟨g, 0, none⟩) l.length cap] w fun e w' => ∃ x, e = .returned x ∧ KnA w.heap.size w' x l ∧ (Lay.codeOk l = true → LeastK l (knF l)) ∧ Below w.heap.size w w' := by
  have HR : Hid (Row w g 0 l) := hr
  clear hr
  go_enter Try.func33, Try.ntmps33
  go_wp2_with fail
  refine (specCodeOk g cap l hl w HR.out).mono ?_
  rintro e w1 ⟨rfl, hb1⟩
  cases hok : Lay.codeOk l
  · have HE : Hid (Lay.codeOk l = false) := hok
    clear hok
    go_wp2
    go_ret
    exact ⟨_, rfl, knA_nil HE.out _, fun h => absurd h (by rw [HE.out]; simp), hb1.alloc hb1.size _⟩
  · have HE : Hid (nK l = l.length) := by show _ = _; simp [nK, hok]
    go_wp2_with fail
    refine (l10Known_at g cap l hok w1 (HR.out.on hb1)).mono ?_
    rintro e w2 ⟨G, K, K2, f, cp, rfl, hle, hk2, hrows, hb2⟩
    have hw2 : Below w.heap.size w w2 := below_over hb1 hb2
    have HL : Hid (LeastK l (knF l)) := kn_least hle
    have HG : Hid (KnA w.heap.size w2 (.slice (some ⟨G, 0, none⟩) l.length l.length) l) := by
      refine ⟨G, l.length, f, cp, by rw [HE.out], ?_⟩
      rw [HE.out]
      exact (hrows.base hb1.size).congr fun i j hi hj => by rw [hk2 i j hi hj, ← wd_is hle hi hj]; unfold wdK; simp [hj]
    clear hle hk2 hrows hb1 hb2 hok
    go_wp2
    go_ret
    exact ⟨_, rfl, HG.out, fun _ => HL.out, hw2⟩
end Pg
end Go.Proofs.Ytffkkhaiedhaiaa
