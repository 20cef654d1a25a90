/- Contracts of the program's rows of parts: made, asked for the least, and run over a text; and its Matches. -/
import Derived.Test.YtbachkjhmenhfaaGm2
namespace Go.Proofs.Ytbachkjhmenhfaa
namespace Pg
open Go.ChangeShapes Go.WideShapes Go.ChangeAt Go.RowKit St
attribute [local go_sem] as_many as_one as_itself as_row

/-- One more behind a row of one's own, of elements of one cell. -/
theorem wpList_one {w : World} {ops : Array Oper} {rest : List Oper} {o : Oper} {a : Act} {Q : Exit → Act → World → Prop} (hgd : o.guard = none) (s x : Operand) (tS e : TypeId)
    (ho : o.op = .call { callee := .builtin .append, args := #[s, x], argTypes := #[tS, tS] })
    (hu : Try.prog.underlying tS = some (.slice e)) {i : TypeInfo} {z : Value} (hif : Try.prog.info? e = some i) (hz0 : i.zero = some z) (hz1 : i.size = 1) (hz2 : i.bytes = 16) (hzc : z.cells.size = 1)
    (B : Nat) (v : Value) (l : List Value) (hs : a.eval s = v) (hg : w.ownsRow B e 1 v l.length l) (hB : B ≤ w.heap.size)
    (u : Value) (h1 : u.oneCell' = true) (ad : Addr) (c : Nat) (hx : a.eval x = .slice (some ad) 1 c) (hc : w.cell? (ad.add 0) = some u) (hlen : l.length ≤ 2000000)
    (h : ∀ v' w', w'.ownsRow B e 1 v' (l.length + 1) (l ++ [u]) → Below B w w' → v' ≠ .slice none 0 0 → wpList Try.prog ops Q rest (a.put o.dst v') w') : wpList Try.prog ops Q (o :: rest) a w := by
  refine wpList_append_own w hgd s x tS ho B e i z 1 16 hu hif hz0 hz1 hz2 hzc (by decide) v l.length l hs hg ad 1 c [u] hx rfl ?_ ?_ (by unfold maxLen; omega) (by omega) hB ?_
  · intro j y hj
    match j, hj with
    | 0, hj => simp at hj; subst hj; exact hc
  · intro y hy; simp at hy; subst hy; exact h1
  intro v' w' hown hgrow hnil
  exact h v' w' hown ((Below.refl _ _).grown hgrow hB (fun k hk => (hg.lt k hk).1)) (fun e => by have := (hnil.1 e).2; omega)

theorem infoPart : (Try.prog.info? 74).map (fun i => (i.zero, i.size, i.bytes)) = some (some .nilIface, 1, 16) := by kernel_rfl
theorem part_one (c : UInt8) : (partV c).oneCell' = true := by
  unfold partV
  split
  · rfl
  · split <;> rfl
/-- A row of parts. -/
def PRow (w : World) (v : Value) (P : List UInt8) : Prop := ∃ g cap, v = .slice (some ⟨g, 0, none⟩) P.length cap ∧ g < w.heap.size ∧ ∀ j x, P[j]? = some x → w.cell? ⟨g, j, none⟩ = some (partV x)
theorem PRow.on {u w : World} {v : Value} {P : List UInt8} (h : PRow u v P) (hb : Below u.heap.size u w) : PRow w v P := by
  obtain ⟨g, cap, hv, hg, hc⟩ := h
  exact ⟨g, cap, hv, Nat.lt_of_lt_of_le hg hb.size, fun j x hj => (hb.cell (p := ⟨g, j, none⟩) hg).trans (hc j x hj)⟩
theorem own_prow {B : Nat} {w : World} {v : Value} {P : List UInt8} (h : w.ownsRow B 74 1 v P.length (P.map partV)) (hv : v ≠ .slice none 0 0) : PRow w v P := by
  have hc := @World.ownsRow.cells w B 74 1 v P.length (P.map partV) h
  have hlt := @World.ownsRow.lt w B 74 1 v P.length (P.map partV) h
  obtain ⟨_, ⟨h, _⟩ | ⟨g, cap, cur, rfl, hB, hblk, hcap, hmax, hsz, _⟩⟩ := h
  · exact absurd h hv
  · refine ⟨g, cap, rfl, (hlt g rfl).2, fun j x hj => ?_⟩
    have := hc (g := g) rfl j (partV x) (by simp [hj])
    simpa [Go.WideShapes.add_plain] using this
theorem own_form {B : Nat} {w : World} {e : TypeId} {n : Nat} {v : Value} {l : List Value} (h : w.ownsRow B e 1 v n l) (hv : v ≠ .slice none 0 0) : ∃ g cap, v = .slice (some ⟨g, 0, none⟩) n cap := by
  obtain ⟨_, ⟨h, _⟩ | ⟨g, cap, cur, rfl, _⟩⟩ := h
  · exact absurd h hv
  · exact ⟨g, cap, rfl⟩
theorem parts_snoc {s : ByteArray} {T : List UInt8} (hT : T = s.data.toList) {k : Nat} (hk : k < s.size) : (T.take (k + 1)).map partV = (T.take k).map partV ++ [partV s[k]] := by
  subst hT
  have h : k < s.data.toList.length := by rw [str_len]; exact hk
  rw [List.take_succ_eq_append_getElem h, List.map_append]
  rfl

set_option maxRecDepth 100000 in
set_option maxHeartbeats 1000000 in
theorem partsOf_at (s : ByteArray) (hs : s.size ≤ 60) (w : World) :
    Calls Try.prog 40 #[.string s] w fun e w' => ∃ v, e = .returned v ∧ PRow w' v s.data.toList ∧ Below w.heap.size w w' := by
  obtain ⟨i0, hif, hz0, hz1, hz2⟩ := info_parts infoPart
  obtain ⟨T, hT⟩ : ∃ T, T = s.data.toList := ⟨_, rfl⟩
  have HT : Hid (T = s.data.toList) := hT
  have HLEN : Hid (T.length = s.size) := by show _ = _; rw [hT]; exact str_len s
  rw [← hT]
  clear hT
  have HOWN0 : Hid ((w.alloc (.cells #[] 74)).ownsRow w.heap.size 74 1 (.slice (some ⟨w.heap.size, 0, none⟩) 0 0) 0 []) := World.ownsRow_made w #[] 0 (Nat.le_refl _) (by decide) (by simp)
  have hb0 : Below w.heap.size w (w.alloc (.cells #[] 74)) := (Below.refl _ _).alloc (Nat.le_refl _) _
  go_enter Try.func40, Try.ntmps40
  go_wp2
  go_loopw [3, 9] (fun v i wr => ∃ (k g cap : Nat), k ≤ s.size ∧ v = .slice (some ⟨g, 0, none⟩) k cap ∧ i = .int .i64 (k : Int) ∧ Hid (wr.ownsRow w.heap.size 74 1 (.slice (some ⟨g, 0, none⟩) k cap) k ((T.take k).map partV)) ∧ Below w.heap.size w wr) (fun _ i _ => s.size - (intOf i).toNat)
  case atStart => exact ⟨0, w.heap.size, 0, Nat.zero_le _, rfl, rfl, HOWN0.out, hb0⟩
  case round =>
    clear HOWN0 hb0
    obtain ⟨k, g, cap, hk, rfl, rfl, hown, hb⟩ := hrel
    by_cases hlt : k < s.size
    · have hki : (k : Int) < (s.size : Int) := by omega
      obtain ⟨L, hL⟩ : ∃ L, L = (T.take k).map partV := ⟨_, rfl⟩
      rw [← hL] at hown
      have HSN : Hid ((T.take (k + 1)).map partV = L ++ [partV s[k]]) := by show _ = _; rw [hL]; exact parts_snoc HT.out hlt
      have HL : Hid (L.length = k) := by
        have := HLEN.out
        show _ = _
        rw [hL, List.length_map, List.length_take]; omega
      have hbs := hb.size
      have HX : Hid (∀ u, u.oneCell' = true → (wr.alloc (.cells #[u] 74)).ownsRow w.heap.size 74 1 (.slice (some ⟨g, 0, none⟩) k cap) L.length L) := fun u hu => by
        rw [HL.out]
        exact ownOn hown.out ((Below.refl _ _).alloc (Nat.le_refl _) _)
      clear hown
      clear hL
      obtain ⟨c, hc⟩ : ∃ c, c = s[k] := ⟨_, rfl⟩
      have HC : Hid (c = s[k]) := hc
      by_cases h42 : c = 42
      · have hx : ((s[k].toNat : Int) == 42) = true := by rw [← hc, h42]; rfl
        have HP : Hid (partV s[k] = .iface 78 (.agg #[])) := by show _ = _; rw [← hc, h42]; rfl
        clear hc
        go_wp2_with (at_builtin; refine wpList_one rfl _ _ 58 74 rfl Try.underlying58 hif hz0 hz1 hz2 rfl w.heap.size _ _ rfl (HX.out (.iface 78 (.agg #[])) rfl) (by simp; omega) (.iface 78 (.agg #[])) rfl _ _ rfl (by simp [Addr.add]) (by rw [HL.out]; omega) ?_)
        intro v' w' hown hb' hv'
        rw [HL.out] at hown
        obtain ⟨g', cap', rfl⟩ := own_form hown hv'
        have HO : Hid (w'.ownsRow w.heap.size 74 1 (.slice (some ⟨g', 0, none⟩) (k + 1) cap') (k + 1) ((T.take (k + 1)).map partV)) := by
          show World.ownsRow _ _ _ _ _ _ _
          rw [HSN.out, HP.out]; exact hown
        have hbn : Below w.heap.size w w' := (hb.alloc hb.size _).trans hb'
        clear hown hv' hb' HX HSN HP
        go_wp2
        go_roundw
        case rel => exact ⟨k + 1, g', cap', by omega, rfl, by go_num, HO.out, hbn⟩
        case measure => simp [intOf]; omega
      · have hx : ((s[k].toNat : Int) == 42) = false := by
          rw [← hc, show (42 : Int) = ((42 : UInt8).toNat : Int) from rfl, u8_eq]; simpa using h42
        by_cases h63 : c = 63
        · have hy : ((s[k].toNat : Int) == 63) = true := by rw [← hc, h63]; rfl
          have HP : Hid (partV s[k] = .iface 79 (.agg #[])) := by show _ = _; rw [← hc, h63]; rfl
          clear hc
          go_wp2_with (at_builtin; refine wpList_one rfl _ _ 58 74 rfl Try.underlying58 hif hz0 hz1 hz2 rfl w.heap.size _ _ rfl (HX.out (.iface 79 (.agg #[])) rfl) (by simp; omega) (.iface 79 (.agg #[])) rfl _ _ rfl (by simp [Addr.add]) (by rw [HL.out]; omega) ?_)
          intro v' w' hown hb' hv'
          rw [HL.out] at hown
          obtain ⟨g', cap', rfl⟩ := own_form hown hv'
          have HO : Hid (w'.ownsRow w.heap.size 74 1 (.slice (some ⟨g', 0, none⟩) (k + 1) cap') (k + 1) ((T.take (k + 1)).map partV)) := by
            show World.ownsRow _ _ _ _ _ _ _
            rw [HSN.out, HP.out]; exact hown
          have hbn : Below w.heap.size w w' := (hb.alloc hb.size _).trans hb'
          clear hown hv' hb' HX HSN HP
          go_wp2
          go_roundw
          case rel => exact ⟨k + 1, g', cap', by omega, rfl, by go_num, HO.out, hbn⟩
          case measure => simp [intOf]; omega
        · have hy : ((s[k].toNat : Int) == 63) = false := by
            rw [← hc, show (63 : Int) = ((63 : UInt8).toNat : Int) from rfl, u8_eq]; simpa using h63
          have HP : Hid (partV s[k] = .iface 80 (.int .u8 (s[k].toNat : Int))) := by show _ = _; rw [← hc]; unfold partV; rw [if_neg h42, if_neg h63]
          clear hc
          go_wp2_with (at_builtin; refine wpList_one rfl _ _ 58 74 rfl Try.underlying58 hif hz0 hz1 hz2 rfl w.heap.size _ _ rfl (HX.out (.iface 80 (.int .u8 (s[k].toNat : Int))) rfl) (by simp; omega) (.iface 80 (.int .u8 (s[k].toNat : Int))) rfl _ _ rfl (by simp [Addr.add]) (by rw [HL.out]; omega) ?_)
          intro v' w' hown hb' hv'
          rw [HL.out] at hown
          obtain ⟨g', cap', rfl⟩ := own_form hown hv'
          have HO : Hid (w'.ownsRow w.heap.size 74 1 (.slice (some ⟨g', 0, none⟩) (k + 1) cap') (k + 1) ((T.take (k + 1)).map partV)) := by
            show World.ownsRow _ _ _ _ _ _ _
            rw [HSN.out, HP.out]; exact hown
          have hbn : Below w.heap.size w w' := (hb.alloc hb.size _).trans hb'
          clear hown hv' hb' HX HSN HP
          go_wp2
          go_roundw
          case rel => exact ⟨k + 1, g', cap', by omega, rfl, by go_num, HO.out, hbn⟩
          case measure => simp [intOf]; omega
    · obtain rfl : k = s.size := by omega
      have HO : Hid (PRow wr (.slice (some ⟨g, 0, none⟩) s.size cap) T) := by
        have h := hown.out
        have e := HLEN.out
        rw [← e, List.take_length] at h
        have := own_prow h (by simp)
        rw [e] at this
        exact this
      clear hown
      go_wp2
      go_ret
      exact ⟨_, rfl, HO.out, hb⟩

theorem prow_form {w : World} {v : Value} {P : List UInt8} (h : PRow w v P) : ∃ g cap, v = .slice (some ⟨g, 0, none⟩) P.length cap ∧ g < w.heap.size ∧ ∀ j x, P[j]? = some x → w.cell? ⟨g, j, none⟩ = some (partV x) := h
set_option maxHeartbeats 1000000 in
theorem rowLeast (P : List UInt8) (hP : P.length ≤ 60) (v : Value) (w : World) (h : PRow w v P) :
    Calls Try.prog 79 #[v] w fun e w' => e = .returned (.int .i64 (leastM P : Int)) ∧ Below w.heap.size w w' := by
  obtain ⟨g, cap, rfl, hg, hc⟩ := h
  have HC : Hid (∀ j x, P[j]? = some x → w.cell? ⟨g, j, none⟩ = some (partV x)) := hc
  clear hc
  go_enter Try.func79, Try.ntmps79
  go_wp2
  go_loopw [3, 8] (fun v i wr => ∃ (k m : Nat), k ≤ P.length ∧ m ≤ 60 ∧ v = .int .i64 (m : Int) ∧ i = .int .i64 (k : Int) ∧ Hid (m = leastM (P.take k)) ∧ Below w.heap.size w wr) (fun _ i _ => P.length - (intOf i).toNat)
  case atStart => exact ⟨0, 0, Nat.zero_le _, by omega, rfl, rfl, rfl, Below.refl _ _⟩
  case round =>
    obtain ⟨k, m, hk, hm, rfl, rfl, hx, hb⟩ := hrel
    by_cases hlt : k < P.length
    · have hki : (k : Int) < (P.length : Int) := by omega
      have c0 := (hb.cell (p := ⟨g, k, none⟩) hg).trans (HC.out k _ (List.getElem?_eq_getElem hlt))
      have HN : Hid (m + needN P[k] = leastM (P.take (k + 1)) ∧ m + needN P[k] ≤ 60) := by
        have e := hx.out
        rw [e, ← leastM_take hlt]
        refine ⟨rfl, ?_⟩
        have := leastM_len (P.take (k + 1))
        rw [List.length_take] at this
        omega
      clear hx
      generalize P[k] = c at *
      go_wp2_with fail
      refine (leastOf_at c _).mono ?_
      rintro e w1 ⟨rfl, hb1⟩
      have hb2 := below_over hb hb1
      have hn := needN_le c
      clear hb1
      have HN1 : Hid (m + needN c = leastM (P.take (k + 1))) := HN.out.1
      have hm2 := HN.out.2
      clear HN
      generalize needN c = n at *
      go_wp2
      go_roundw
      case rel => exact ⟨k + 1, m + n, by omega, hm2, by go_num, by go_num, HN1.out, hb2⟩
      case measure => simp [intOf]; omega
    · obtain rfl : k = P.length := by omega
      have HE : Hid (m = leastM P) := by
        have := hx.out
        rw [List.take_length] at this
        exact this
      clear hx
      go_wp2
      go_ret
      exact ⟨by rw [← HE.out]; rfl, hb⟩
theorem leastOf_row (P : List UInt8) (hP : P.length ≤ 60) (v : Value) (w : World) (h : PRow w v P) :
    Calls Try.prog 53 #[.iface 58 v] w fun e w' => e = .returned (.int .i64 (leastM P : Int)) ∧ Below w.heap.size w w' := by
  have H : Hid (PRow w v P) := h
  clear h
  go_enter Try.func53, Try.ntmps53
  go_wp2_with fail
  refine (rowLeast P hP v _ H.out).mono ?_
  rintro e w1 ⟨rfl, hb1⟩
  go_wp2
  go_ret
  exact ⟨rfl, hb1⟩
set_option maxHeartbeats 1000000 in
theorem rowEnds (P : List UInt8) (v : Value) (s : ByteArray) (hs : s.size ≤ 60) (w : World) (h : PRow w v P) (hP : P.length ≤ 60) :
    Calls Try.prog 78 #[v, .string s, .int .i64 0] w fun e w' => e = .returned (plV (setM P s.data.toList)) ∧ Below w.heap.size w w' := by
  obtain ⟨T, hT⟩ : ∃ T, T = s.data.toList := ⟨_, rfl⟩
  have HT : Hid (T = s.data.toList) := hT
  rw [← hT]
  clear hT
  obtain ⟨g, cap, rfl, hg, hc⟩ := h
  have HC : Hid (∀ j x, P[j]? = some x → w.cell? ⟨g, j, none⟩ = some (partV x)) := hc
  clear hc
  go_enter Try.func78, Try.ntmps78
  go_wp2_with fail
  refine (placeOf_at 0 (by omega) _).mono ?_
  rintro e w' ⟨rfl, rfl⟩
  go_wp2
  go_loopw [7, 14] (fun v i wr => ∃ (k : Nat), k ≤ P.length ∧ v = plV (setM (P.take k) T) ∧ i = .int .i64 (k : Int) ∧ Below w'.heap.size w' wr) (fun _ i _ => P.length - (intOf i).toNat)
  case atStart => exact ⟨0, Nat.zero_le _, by rw [pw_bn (by omega)]; exact pl_congr fun j _ => (setM_nil T j).symm, rfl, Below.refl _ _⟩
  case round =>
    obtain ⟨k, hk, rfl, rfl, hb⟩ := hrel
    by_cases hlt : k < P.length
    · have hki : (k : Int) < (P.length : Int) := by omega
      have c0 := (hb.cell (p := ⟨g, k, none⟩) hg).trans (HC.out k _ (List.getElem?_eq_getElem hlt))
      have HN : Hid (plV (fun j => decide (j ≤ T.length) && stepM P[k] T (setM (P.take k) T) j) = plV (setM (P.take (k + 1)) T)) := pl_congr fun j _ => setM_take T hlt j
      generalize P[k] = c at *
      go_wp2_with fail
      refine (endsOf_at c s _ hs _).mono ?_
      rintro e w1 ⟨rfl, hb1⟩
      have hb2 := below_over hb hb1
      clear hb1
      rw [← HT.out, HN.out]
      go_wp2
      go_roundw
      case rel => exact ⟨k + 1, by omega, rfl, by go_num, hb2⟩
      case measure => simp [intOf]; omega
    · obtain rfl : k = P.length := by omega
      rw [List.take_length]
      go_wp2
      go_ret
      exact ⟨rfl, hb⟩
end Pg
end Go.Proofs.Ytbachkjhmenhfaa
