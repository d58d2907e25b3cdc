/- WC3, joined. -/
import Derived.Test.YtegcomopcoapjaaGreatDoorTG1
import Derived.Test.YtegcomopcoapjaaGreatDoorTG3
import Derived.Test.YtegcomopcoapjaaGreatDoorTG5
import Derived.Test.YtegcomopcoapjaaGreatDoorTG6
import Derived.Test.YtegcomopcoapjaaGreatDoorTG7
import Derived.RangeFuncRecord
import Derived.BigRegion
/- wal: a fact at the front of bytes. -/
namespace Go.Proofs.YtegcomopcoapjaaGreatDoor
open Go.RowKit Go.Shelf

/-- What fact tells. -/
def FtPost (w0 w : World) (b : List UInt8) (e : Ending) (w' : World) : Prop := Below w.heap.size w w' ∧ match rdF b with
  | none => e = .returned (.tuple #[.agg #[.slice none 0 0, .int .i64 0, .int .i64 0], .slice none 0 0, .bool false])
  | some (f, r) => ∃ vd vr, e = .returned (.tuple #[.agg #[vd, .int .i64 f.t, .int .i64 f.x], vr, .bool true]) ∧ SOwn w' (w.heap.size + 1) vd f.D ∧ Reads w0 vr r
theorem FtPost.no {w0 w : World} {b : List UInt8} {w' : World} (h : rdF b = none) (hb : Below w.heap.size w w') : FtPost w0 w b (.returned (.tuple #[.agg #[.slice none 0 0, .int .i64 0, .int .i64 0], .slice none 0 0, .bool false])) w' := by
  unfold FtPost; rw [h]; exact ⟨hb, rfl⟩
theorem FtPost.yes {w0 w : World} {b : List UInt8} {w' : World} {D : List ByteArray} {t x : Int} {r : List UInt8} {vd vr : Value} (h : rdF b = some (⟨D, t, x⟩, r)) (hb : Below w.heap.size w w') (h1 : SOwn w' (w.heap.size + 1) vd D) (h2 : Reads w0 vr r) : FtPost w0 w b (.returned (.tuple #[.agg #[vd, .int .i64 t, .int .i64 x], vr, .bool true])) w' := by
  unfold FtPost; rw [h]; exact ⟨hb, vd, vr, rfl, h1, h2⟩
theorem rdF_bad {b : List UInt8} (h : ¬ ((rsF b 0 0).2.2 = 0 ∧ (rsF b 0 0).1 ≤ 4)) : rdF b = none := by unfold rdF; rw [if_neg h]
theorem rdF_go {b : List UInt8} (h1 : (rsF b 0 0).2.2 = 0) (h2 : (rsF b 0 0).1 ≤ 4) : rdF b = match rdD (rsF b 0 0).1 (b.drop (rsF b 0 0).2.1) with
    | none => none
    | some (D, r) => if r.length < 16 then none else some (⟨D, (rnF r).1, (rnF (r.drop 8)).1⟩, r.drop 16) := by unfold rdF; rw [if_pos ⟨h1, h2⟩]; rfl
theorem results_ctt {fn : Func} {p u v : Tmp} {ty : TypeId} (h : fn.results = #[.cell p ty, .tmp u, .tmp v]) (tmps : Array Value) (w : World) (g : Nat) (cs : Array Value)
    (hp : tmps.getD p undef = .pointer (some ⟨g, 0, none⟩)) (hl : (loadVar ty ⟨g, 0, none⟩).run Tryz.prog w = .ok (.agg cs) w) :
    (results fn tmps).run Tryz.prog w = .ok (.tuple #[.agg cs, tmps.getD u undef, tmps.getD v undef]) w := by
  have hp' : tmps[p]?.getD undef = .pointer (some ⟨g, 0, none⟩) := by simpa using hp
  simp [results, h, hp', asAddr, hl]
theorem set3 {w : World} {g : Nat} {cs : Array Value} {T : TypeId} (h : w.heap[g]? = some (.cells cs T)) (hc : cs.size = 3) (a b c : Value) : (((w.setCell ⟨g, 0, none⟩ a).setCell ⟨g, 1, none⟩ b).setCell ⟨g, 2, none⟩ c).heap[g]? = some (.cells #[a, b, c] T) := by
  rw [cells_set (cells_set (cells_set h 0 a) 1 b) 2 c]
  obtain ⟨l⟩ := cs
  match l, hc with
  | [x, y, z], _ => rfl
theorem txb_ge : ∀ (s : List UInt8), s.length ≤ (txb s).length
  | [] => by simp
  | x :: s => by
    have := txb_ge s
    unfold txb
    by_cases h : x.toNat = 0
    · rw [if_pos h]; simp; omega
    · rw [if_neg h]; simp; omega
theorem below3 {n g : Nat} {w W : World} (h : Below n w W) (hg : n ≤ g) (a b c : Value) : Below n w (((W.setCell ⟨g, 0, none⟩ a).setCell ⟨g, 1, none⟩ b).setCell ⟨g, 2, none⟩ c) :=
  ((h.setCell (p := ⟨g, 0, none⟩) hg a).setCell (p := ⟨g, 1, none⟩) hg b).setCell (p := ⟨g, 2, none⟩) hg c
theorem rn_lo {r : List UInt8} (h : r.length < 8) : rnF r = (0, 0, 10) := by unfold rnF; rw [if_pos h]
theorem rn_hi {r : List UInt8} (h : ¬ r.length < 8) : rnF r = ((rnF r).1, 8, 0) := by unfold rnF; rw [if_neg h]
theorem row_form2 {w : World} {base n : Nat} {e : TypeId} {v : Value} {xs : List Value} (h : w.ownsRow base e 1 v n xs) : ∃ a c, v = .slice a n c := by
  rcases h.2 with ⟨h1, h2⟩ | ⟨g, cap, cur, h1, _⟩
  · exact ⟨none, 0, by rw [h1, h2]⟩
  · exact ⟨_, cap, h1⟩
theorem sown_set {w : World} {base : Nat} {v : Value} {L : List ByteArray} {b o : Nat} {x : Value} (h : SOwn w base v L) (hb : b < base) : SOwn (w.setCell ⟨b, o, none⟩ x) base v L := by
  obtain ⟨⟨h1, h2⟩, h3⟩ := h
  refine ⟨⟨h1, ?_⟩, h3⟩
  rcases h2 with h2 | ⟨g, cap, cur, hv, hg, hw, r⟩
  · exact .inl h2
  · exact .inr ⟨g, cap, cur, hv, hg, (Below.heap_setCell w ⟨b, o, none⟩ x g (by simp; omega)).trans hw, r⟩
theorem fz3 {w : World} {g : Nat} {cs : Array Value} {T : TypeId} (h : w.heap[g]? = some (.cells cs T)) (i : Nat) : w.frozen? ⟨g, i, none⟩ = false := by simp [World.frozen?, h]
theorem cl3 {w : World} {b : Nat} {cs : Array Value} {T : TypeId} (h : w.heap[b]? = some (.cells cs T)) (i : Nat) (hi : i < cs.size) : w.cell? ⟨b, i, none⟩ = some cs[i] := by
  simp [World.cell?, h, hi]
set_option maxRecDepth 100000 in
set_option maxHeartbeats 4000000 in
theorem fact_any (v : Value) (b : List UInt8) (hbl : b.length ≤ 10000) (w0 w : World) (hb0 : Below w0.heap.size w0 w) (hR : Reads w0 v b) : Calls Tryz.prog 77 #[v] w (FtPost w0 w b) := by
  have HH : Hid (∀ W, Below w.heap.size w W → Below w0.heap.size w0 W) := fun W h => hb0.trans (h.mono hb0.size)
  clear hb0
  obtain ⟨a, cap, rfl, hm⟩ := hR.form
  unfold maxLen at hm
  have HR : Hid (Reads w0 (.slice a b.length cap) b) := hR
  clear hR
  obtain ⟨C, HC⟩ := hid_ex (rsF b 0 0).1
  obtain ⟨N, HN⟩ := hid_ex (rsF b 0 0).2.1
  obtain ⟨E, HE⟩ := hid_ex (rsF b 0 0).2.2
  have HB0 : Hid (Below w.heap.size w (w.alloc (.cells #[.slice none 0 0, .int .i64 0, .int .i64 0] 60))) := (Below.refl _ _).alloc (Nat.le_refl _) _
  have HRS : Hid (Calls Tryz.prog 66 #[.slice a b.length cap] (w.alloc (.cells #[.slice none 0 0, .int .i64 0, .int .i64 0] 60)) fun e w' => e = .returned (.tuple #[.int .u64 (C : Int), .int .i64 (N : Int), .int .i64 E]) ∧ Below (w.heap.size + 1) (w.alloc (.cells #[.slice none 0 0, .int .i64 0, .int .i64 0] 60)) w') := by
    have := readShort_any _ b _ (HR.out.below (HH.out _ HB0.out))
    rw [← HC.out, ← HN.out, ← HE.out] at this
    unfold Hid
    simpa using this
  go_enter Tryz.func77, Tryz.ntmps77
  go_wp2_with fail
  refine HRS.out.mono ?_
  rintro e w1 ⟨rfl, hb1⟩
  have HK1 : Hid (w1.heap[w.heap.size]? = some (.cells #[.slice none 0 0, .int .i64 0, .int .i64 0] 60)) := (hb1.block w.heap.size (by omega)).trans (World.alloc_heap_new _ _)
  have hz1 : w.heap.size + 1 ≤ w1.heap.size := by have := hb1.size; simpa using this
  have HB1 : Hid (Below w.heap.size w w1) := HB0.out.trans (hb1.mono (by omega))
  clear hb1 HRS HB0
  by_cases hE : E = 0
  · subst hE
    by_cases hC : C ≤ 4
    · have hC' : ¬ (4 : Int) < (C : Int) := by omega
      have HNl : Hid (N ≤ b.length) := by
        obtain ⟨u, c, h1, _, h3, _⟩ := rsF_ok b 0 0 C N (by rw [HC.out, HN.out, HE.out]) (by omega) (by simp)
        show N ≤ _
        omega
      have HG : Hid (rdF b = match rdD C (b.drop N) with
          | none => none
          | some (D, r) => if r.length < 16 then none else some (⟨D, (rnF r).1, (rnF (r.drop 8)).1⟩, r.drop 16)) := by
        have := rdF_go (b := b) HE.out.symm (by rw [← HC.out]; exact hC)
        rw [← HC.out, ← HN.out] at this
        exact this
      obtain ⟨a1, c1, hsl, hrd⟩ := sl_from HR.out HNl.out
      have HR1 : Hid (Reads w0 (.slice a1 (b.length - N) c1) (b.drop N)) := hrd
      have hd0 : decide ((4 : Int) < (C : Int)) = false := decide_eq_false hC'
      clear hrd HC HN HE
      go_wp2_with fail
      clear hsl
      go_loopw [8, 9, 34] (fun rv dv i wr => ∃ (k : Nat) (M : List ByteArray) (r : List UInt8), k ≤ C ∧ i = .int .u64 (k : Int) ∧ Hid (M.length = k) ∧ Hid (rdD C (b.drop N) = (rdD (C - k) r).map fun q => (M ++ q.1, q.2)) ∧ Hid (Reads w0 rv r) ∧ r.length ≤ 10000 ∧ SOwn wr (w.heap.size + 1) dv M ∧ Hid (Below (w.heap.size + 1) w1 wr)) (fun _ _ i _ => C - (intOf i).toNat)
      case atStart =>
        refine ⟨0, [], b.drop N, by omega, rfl, rfl, ?_, HR1, by simp; omega, SOwn.nil _ _, Below.refl _ _⟩
        simp [Hid]
      case round =>
        obtain ⟨k, M, r, hk, rfl, HML, HD, HRr, hrl, HO, HB⟩ := hrel
        have hsz := HB.out.size
        have HBw : Hid (Below w.heap.size w wr) := HB1.out.trans (HB.out.mono (by omega))
        have HK : Hid (wr.heap[w.heap.size]? = some (.cells #[.slice none 0 0, .int .i64 0, .int .i64 0] 60)) := (HB.out.block w.heap.size (by omega)).trans HK1.out
        obtain ⟨ar, cr, rfl, _⟩ := HRr.out.form
        by_cases hlt : (k : Int) < (C : Int)
        · have HT : Hid (Calls Tryz.prog 94 #[.slice ar r.length cr] wr fun e w' => e = .returned (.tuple #[.string ⟨(rtF r [] 0).1.toArray⟩, .int .i64 (rtF r [] 0).2.1, .int .i64 (rtF r [] 0).2.2]) ∧ Below wr.heap.size wr w') := readText_any _ r hrl wr (HRr.out.below (HH.out _ HBw.out))
          have HD1 : Hid (rdD (C - k) r = if (rtF r [] 0).2.2 = 0 then (rdD (C - (k + 1)) (r.drop (rtF r [] 0).2.1)).map (fun q => (⟨(rtF r [] 0).1.toArray⟩ :: q.1, q.2)) else none) := by
            unfold Hid; rw [show C - k = (C - (k + 1)) + 1 by omega, rdD]
          obtain ⟨S, HS⟩ := hid_ex (⟨(rtF r [] 0).1.toArray⟩ : ByteArray)
          obtain ⟨L, HL⟩ := hid_ex (rtF r [] 0).2.1
          obtain ⟨F, HF⟩ := hid_ex (rtF r [] 0).2.2
          have HOk : Hid (F = 0 → L ≤ r.length ∧ S.size ≤ 10000) := by
            intro h
            obtain ⟨s, c, h1, _, h3, h4, h5⟩ := rtF_ok r.length r [] 0 (rtF r [] 0).1 L (Nat.le_refl _) (by rw [HL.out, ← h, HF.out])
            have h6 := congrArg List.length h5
            have h7 : s.length ≤ (tx s).length := by unfold tx; rw [List.length_append]; have := txb_ge s; omega
            rw [h6.trans (List.length_take_of_le h3)] at h7
            refine ⟨by omega, ?_⟩
            rw [HS.out, h4]
            show ([] ++ s).toArray.size ≤ _
            simp
            omega
          rw [← HS.out, ← HL.out, ← HF.out] at HT HD1
          clear HS HL HF
          go_wp2_with fail
          refine HT.out.mono ?_
          rintro e w2 ⟨rfl, hb2⟩
          have HB2 : Hid (Below (w.heap.size + 1) w1 w2) := HB.out.trans (hb2.mono (by omega))
          have HO2 : SOwn w2 (w.heap.size + 1) u9 M := HO.below hb2
          have HK2 : Hid (w2.heap[w.heap.size]? = some (.cells #[.slice none 0 0, .int .i64 0, .int .i64 0] 60)) := (hb2.block w.heap.size (by omega)).trans HK.out
          have HBw2 : Hid (Below w.heap.size w w2) := HBw.out.trans (hb2.mono HBw.out.size)
          have hsz2 := HB2.out.size
          clear hb2 HB HO HK HBw HT
          by_cases hF : F = 0
          · subst hF
            obtain ⟨hL1, hS1⟩ := HOk.out rfl
            rw [if_pos rfl] at HD1
            obtain ⟨a2, c2, hsl2, hrd2⟩ := sl_from HRr.out hL1
            obtain ⟨M2, HM2⟩ := hid_ex (M ++ [S])
            have HD2 : Hid (rdD C (b.drop N) = (rdD (C - (k + 1)) (r.drop L)).map fun q => (M2 ++ q.1, q.2)) := by
              unfold Hid; rw [HD.out, HD1.out, HM2.out, Option.map_map]; congr 1; funext q; simp
            have HML2 : Hid (M2.length = k + 1) := by unfold Hid; rw [HM2.out, List.length_append, HML.out]; rfl
            have HR2 : Hid (Reads w0 (.slice a2 (r.length - L) c2) (r.drop L)) := hrd2
            have hMl : M.length + 1 ≤ 8796093022208 := by have := HML.out; omega
            clear hrd2 HD HD1 HRr HML
            go_wp2_with (at_builtin; refine wpList_sapp1 rfl _ _ rfl (w.heap.size + 1) _ M M2 HM2.out (by unfold maxLen; omega) rfl rfl HO2 hMl (by omega) ?_)
            intro v3 w3 HO3 hb3
            have HB3 : Hid (Below (w.heap.size + 1) w1 w3) := HB2.out.trans hb3.out
            clear hb3 HB2 HO2 hsz2 HK2 HBw2
            go_wp2_with fail
            clear hsl2
            go_roundw
            case rel => exact ⟨k + 1, M2, r.drop L, by omega, by go_num, HML2, HD2, HR2, by simp; omega, HO3, HB3⟩
            case measure => simp [intOf]; omega
          · have HNo : Hid (rdF b = none) := by
              unfold Hid; rw [HG.out, HD.out, HD1.out, if_neg hF]; rfl
            have hF' : (F != 0) = true := by simpa using hF
            clear hF
            have k0 := cl3 HK2.out 0 (by simp)
            have k1 := cl3 HK2.out 1 (by simp)
            have k2 := cl3 HK2.out 2 (by simp)
            have f0 := fz3 HK2.out 0
            have f1 := fz3 HK2.out 1
            have f2 := fz3 HK2.out 2
            simp only [List.getElem_toArray, List.getElem_cons_succ, List.getElem_cons_zero] at k0 k1 k2
            go_wp2_with fail
            have HK9 := set3 HK2.out rfl (.slice none 0 0) (.int .i64 0) (.int .i64 0)
            refine bodyPost_ret (results_ctt rfl _ _ w.heap.size _ rfl (run_loadVar_row _ w.heap.size _ _ _ (0, 0) _ HK9 Tryz.underlying60 rfl (by kernel_rfl))) rfl ?_
            exact FtPost.no HNo.out (below3 HBw2.out (Nat.le_refl _) _ _ _)
        · have HD3 : Hid (rdD C (b.drop N) = some (M, r)) := by
            unfold Hid; rw [HD.out, show C - k = 0 by omega]; simp [rdD]
          have HG2 : Hid (rdF b = if r.length < 16 then none else some (⟨M, (rnF r).1, (rnF (r.drop 8)).1⟩, r.drop 16)) := by
            unfold Hid; rw [HG.out, HD3.out]
          clear HD HD3 HG
          obtain ⟨A, HA⟩ := hid_ex (rnF r).1
          rw [← HA.out] at HG2
          have HN0 : Hid (Calls Tryz.prog 65 #[.slice ar r.length cr] wr fun e w' => e = .returned (.tuple #[.int .i64 (rnF r).1, .int .i64 (rnF r).2.1, .int .i64 (rnF r).2.2]) ∧ Below wr.heap.size wr w') := readNumber_any _ r wr (HRr.out.below (HH.out _ HBw.out))
          by_cases h8 : r.length < 8
          · have HNo : Hid (rdF b = none) := by unfold Hid; rw [HG2.out, if_pos (by omega)]
            have HN1 : Hid (Calls Tryz.prog 65 #[.slice ar r.length cr] wr fun e w' => e = .returned (.tuple #[.int .i64 0, .int .i64 0, .int .i64 10]) ∧ Below wr.heap.size wr w') := by
              have := HN0.out
              rw [rn_lo h8] at this
              exact this
            obtain ⟨a5, c5, hsl5, hrd5⟩ := sl_from HRr.out (c := 0) (Nat.zero_le _)
            have hsl6 : ∀ w', (Instr.slice 61 (.slice ar r.length cr) (some (.int .i64 0)) none none).run Tryz.prog w' = .ok (.slice a5 (r.length - 0) c5) w' := hsl5
            have HR5 : Hid (Reads w0 (.slice a5 (r.length - 0) c5) (r.drop 0)) := hrd5
            have HN2 : Hid (∀ W, Below w.heap.size w W → Calls Tryz.prog 65 #[.slice a5 (r.length - 0) c5] W fun e w' => e = .returned (.tuple #[.int .i64 0, .int .i64 0, .int .i64 10]) ∧ Below W.heap.size W w') := by
              intro W hW
              have := readNumber_any _ (r.drop 0) W (HR5.out.below (HH.out _ hW))
              rw [rn_lo (show (r.drop 0).length < 8 by simpa using h8)] at this
              exact this
            clear hsl5 hrd5 HN0 HG2 h8 HR5
            go_wp2_with fail
            refine HN1.out.mono ?_
            rintro e w4 ⟨rfl, hb4⟩
            have HBw4 : Hid (Below w.heap.size w w4) := HBw.out.trans (hb4.mono HBw.out.size)
            have HK4 : Hid (w4.heap[w.heap.size]? = some (.cells #[.slice none 0 0, .int .i64 0, .int .i64 0] 60)) := (hb4.block w.heap.size (by omega)).trans HK.out
            clear hb4 HN1
            go_wp2_with fail
            refine (HN2.out _ HBw4.out).mono ?_
            rintro e w5 ⟨rfl, hb5⟩
            have HBw5 : Hid (Below w.heap.size w w5) := HBw4.out.trans (hb5.mono HBw4.out.size)
            have HK5 : Hid (w5.heap[w.heap.size]? = some (.cells #[.slice none 0 0, .int .i64 0, .int .i64 0] 60)) := (hb5.block w.heap.size (Array.getElem?_eq_some_iff.1 HK4.out).1).trans HK4.out
            clear hb5 HN2 hsl6
            have k0 := cl3 HK5.out 0 (by simp)
            have k1 := cl3 HK5.out 1 (by simp)
            have k2 := cl3 HK5.out 2 (by simp)
            have f0 := fz3 HK5.out 0
            have f1 := fz3 HK5.out 1
            have f2 := fz3 HK5.out 2
            simp only [List.getElem_toArray, List.getElem_cons_succ, List.getElem_cons_zero] at k0 k1 k2
            go_wp2_with fail
            have HK9 := set3 HK5.out rfl (.slice none 0 0) (.int .i64 0) (.int .i64 0)
            refine bodyPost_ret (results_ctt rfl _ _ w.heap.size _ rfl (run_loadVar_row _ w.heap.size _ _ _ (0, 0) _ HK9 Tryz.underlying60 rfl (by kernel_rfl))) rfl ?_
            exact FtPost.no HNo.out (below3 HBw5.out (Nat.le_refl _) _ _ _)
          · have HN1 : Hid (Calls Tryz.prog 65 #[.slice ar r.length cr] wr fun e w' => e = .returned (.tuple #[.int .i64 A, .int .i64 8, .int .i64 0]) ∧ Below wr.heap.size wr w') := by
              have := HN0.out
              rw [rn_hi h8, ← HA.out] at this
              exact this
            obtain ⟨a5, c5, hsl5, hrd5⟩ := sl_from HRr.out (c := 8) (by omega)
            have hsl6 : ∀ w', (Instr.slice 61 (.slice ar r.length cr) (some (.int .i64 8)) none none).run Tryz.prog w' = .ok (.slice a5 (r.length - 8) c5) w' := hsl5
            have HR5 : Hid (Reads w0 (.slice a5 (r.length - 8) c5) (r.drop 8)) := hrd5
            have HN3 : Hid (∀ W, Below w.heap.size w W → Calls Tryz.prog 65 #[.slice a5 (r.length - 8) c5] W fun e w' => e = .returned (.tuple #[.int .i64 (rnF (r.drop 8)).1, .int .i64 (rnF (r.drop 8)).2.1, .int .i64 (rnF (r.drop 8)).2.2]) ∧ Below W.heap.size W w') := fun W hW => readNumber_any _ (r.drop 8) W (HR5.out.below (HH.out _ hW))
            clear hsl5 hrd5 HN0 HR5
            by_cases h16 : r.length < 16
            · have HNo : Hid (rdF b = none) := by unfold Hid; rw [HG2.out, if_pos h16]
              have HN2 : Hid (∀ W, Below w.heap.size w W → Calls Tryz.prog 65 #[.slice a5 (r.length - 8) c5] W fun e w' => e = .returned (.tuple #[.int .i64 0, .int .i64 0, .int .i64 10]) ∧ Below W.heap.size W w') := by
                intro W hW
                have := HN3.out W hW
                rw [rn_lo (show (r.drop 8).length < 8 by simp; omega)] at this
                exact this
              clear HN3 HG2 h8 h16
              go_wp2_with fail
              refine HN1.out.mono ?_
              rintro e w4 ⟨rfl, hb4⟩
              have HBw4 : Hid (Below w.heap.size w w4) := HBw.out.trans (hb4.mono HBw.out.size)
              have HK4 : Hid (w4.heap[w.heap.size]? = some (.cells #[.slice none 0 0, .int .i64 0, .int .i64 0] 60)) := (hb4.block w.heap.size (by omega)).trans HK.out
              clear hb4 HN1
              go_wp2_with fail
              refine (HN2.out _ HBw4.out).mono ?_
              rintro e w5 ⟨rfl, hb5⟩
              have HBw5 : Hid (Below w.heap.size w w5) := HBw4.out.trans (hb5.mono HBw4.out.size)
              have HK5 : Hid (w5.heap[w.heap.size]? = some (.cells #[.slice none 0 0, .int .i64 0, .int .i64 0] 60)) := (hb5.block w.heap.size (Array.getElem?_eq_some_iff.1 HK4.out).1).trans HK4.out
              clear hb5 HN2 hsl6
              have k0 := cl3 HK5.out 0 (by simp)
              have k1 := cl3 HK5.out 1 (by simp)
              have k2 := cl3 HK5.out 2 (by simp)
              have f0 := fz3 HK5.out 0
              have f1 := fz3 HK5.out 1
              have f2 := fz3 HK5.out 2
              simp only [List.getElem_toArray, List.getElem_cons_succ, List.getElem_cons_zero] at k0 k1 k2
              go_wp2_with fail
              have HK9 := set3 HK5.out rfl (.slice none 0 0) (.int .i64 0) (.int .i64 0)
              refine bodyPost_ret (results_ctt rfl _ _ w.heap.size _ rfl (run_loadVar_row _ w.heap.size _ _ _ (0, 0) _ HK9 Tryz.underlying60 rfl (by kernel_rfl))) rfl ?_
              exact FtPost.no HNo.out (below3 HBw5.out (Nat.le_refl _) _ _ _)
            · obtain ⟨B, HBB⟩ := hid_ex (rnF (r.drop 8)).1
              have HYes : Hid (rdF b = some (⟨M, A, B⟩, r.drop 16)) := by unfold Hid; rw [HG2.out, if_neg h16, HBB.out]
              have HN2 : Hid (∀ W, Below w.heap.size w W → Calls Tryz.prog 65 #[.slice a5 (r.length - 8) c5] W fun e w' => e = .returned (.tuple #[.int .i64 B, .int .i64 8, .int .i64 0]) ∧ Below W.heap.size W w') := by
                intro W hW
                have := HN3.out W hW
                rw [rn_hi (show ¬ (r.drop 8).length < 8 by simp; omega), ← HBB.out] at this
                exact this
              obtain ⟨a7, c7, hsl7, hrd7⟩ := sl_from HRr.out (c := 16) (by omega)
              have hsl8 : ∀ w', (Instr.slice 61 (.slice ar r.length cr) (some (.int .i64 16)) none none).run Tryz.prog w' = .ok (.slice a7 (r.length - 16) c7) w' := hsl7
              have HR7 : Hid (Reads w0 (.slice a7 (r.length - 16) c7) (r.drop 16)) := hrd7
              clear HN3 HG2 h8 h16 hsl7 hrd7
              go_wp2_with fail
              refine HN1.out.mono ?_
              rintro e w4 ⟨rfl, hb4⟩
              have HBw4 : Hid (Below w.heap.size w w4) := HBw.out.trans (hb4.mono HBw.out.size)
              have HK4 : Hid (w4.heap[w.heap.size]? = some (.cells #[.slice none 0 0, .int .i64 0, .int .i64 0] 60)) := (hb4.block w.heap.size (by omega)).trans HK.out
              have HO4 : Hid (SOwn w4 (w.heap.size + 1) u9 M) := HO.below hb4
              clear hb4 HN1 HO
              go_wp2_with fail
              refine (HN2.out _ HBw4.out).mono ?_
              rintro e w5 ⟨rfl, hb5⟩
              have HBw5 : Hid (Below w.heap.size w w5) := HBw4.out.trans (hb5.mono HBw4.out.size)
              have HK5 : Hid (w5.heap[w.heap.size]? = some (.cells #[.slice none 0 0, .int .i64 0, .int .i64 0] 60)) := (hb5.block w.heap.size (Array.getElem?_eq_some_iff.1 HK4.out).1).trans HK4.out
              have HO5 : Hid (SOwn w5 (w.heap.size + 1) u9 M) := HO4.out.below hb5
              clear hb5 HN2 hsl6 HO4 HK4 HBw4
              obtain ⟨ao, co, hov⟩ : ∃ a c, u9 = .slice a M.length c := row_form2 HO5.out.1
              subst hov
              have k0 := cl3 HK5.out 0 (by simp)
              have k1 := cl3 HK5.out 1 (by simp)
              have k2 := cl3 HK5.out 2 (by simp)
              have f0 := fz3 HK5.out 0
              have f1 := fz3 HK5.out 1
              have f2 := fz3 HK5.out 2
              simp only [List.getElem_toArray, List.getElem_cons_succ, List.getElem_cons_zero] at k0 k1 k2
              go_wp2_with fail
              go_region
              go_wp2_with fail
              have HK9 := set3 HK5.out rfl (.slice ao M.length co) (.int .i64 A) (.int .i64 B)
              refine bodyPost_ret (results_ctt rfl _ _ w.heap.size _ rfl (run_loadVar_row _ w.heap.size _ _ _ (0, 0) _ HK9 Tryz.underlying60 rfl (by kernel_rfl))) rfl ?_
              exact FtPost.yes HYes.out (below3 HBw5.out (Nat.le_refl _) _ _ _).drew (sown_set (sown_set (sown_set HO5.out (by omega)) (by omega)) (by omega)) HR7.out
    · have HNo : Hid (rdF b = none) := rdF_bad (fun h => hC (by rw [HC.out]; exact h.2))
      have hC' : (4 : Int) < (C : Int) := by omega
      clear hC
      have k0 := cl3 HK1.out 0 (by simp)
      have k1 := cl3 HK1.out 1 (by simp)
      have k2 := cl3 HK1.out 2 (by simp)
      have f0 := fz3 HK1.out 0
      have f1 := fz3 HK1.out 1
      have f2 := fz3 HK1.out 2
      simp only [List.getElem_toArray, List.getElem_cons_succ, List.getElem_cons_zero] at k0 k1 k2
      go_wp2_with fail
      have HK9 := set3 HK1.out rfl (.slice none 0 0) (.int .i64 0) (.int .i64 0)
      refine bodyPost_ret (results_ctt rfl _ _ w.heap.size _ rfl (run_loadVar_row _ w.heap.size _ _ _ (0, 0) _ HK9 Tryz.underlying60 rfl (by kernel_rfl))) rfl ?_
      exact FtPost.no HNo.out (below3 HB1.out (Nat.le_refl _) _ _ _)
  · have HNo : Hid (rdF b = none) := rdF_bad (fun h => hE (by rw [HE.out]; exact h.1))
    have hE' : (E != 0) = true := by simpa using hE
    clear hE
    have k0 := cl3 HK1.out 0 (by simp)
    have k1 := cl3 HK1.out 1 (by simp)
    have k2 := cl3 HK1.out 2 (by simp)
    have f0 := fz3 HK1.out 0
    have f1 := fz3 HK1.out 1
    have f2 := fz3 HK1.out 2
    simp only [List.getElem_toArray, List.getElem_cons_succ, List.getElem_cons_zero] at k0 k1 k2
    go_wp2_with fail
    have HK9 := set3 HK1.out rfl (.slice none 0 0) (.int .i64 0) (.int .i64 0)
    refine bodyPost_ret (results_ctt rfl _ _ w.heap.size _ rfl (run_loadVar_row _ w.heap.size _ _ _ (0, 0) _ HK9 Tryz.underlying60 rfl (by kernel_rfl))) rfl ?_
    exact FtPost.no HNo.out (below3 HB1.out (Nat.le_refl _) _ _ _)
end Go.Proofs.YtegcomopcoapjaaGreatDoor
