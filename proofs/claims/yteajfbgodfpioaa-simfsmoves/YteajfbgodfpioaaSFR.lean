/- law11: played. -/
import Derived.Test.YteajfbgodfpioaaSFQ
namespace Go.Proofs.Yteajfbgodfpioaa
open Go.RowKit Go.Maps Go.Sort

/-- Calls that a slice reads. -/
def OsR (w : World) (v : Value) (L : List SfO) : Prop :=
  ∃ a cap, v = .slice a L.length cap ∧ L.length ≤ maxLen ∧ (L = [] ∨ ∃ b off, a = some ⟨b, off, none⟩ ∧ b < w.heap.size ∧ ∀ j (hj : j < L.length), (∀ i (hi : i < 7), w.cell? ⟨b, off + (j * 7 + i), none⟩ = some ((o7 L[j])[i]'hi)) ∧ SfOk w L[j])
theorem OsR.below {w w' : World} {v : Value} {L : List SfO} (h : OsR w v L) (hb : Below w.heap.size w w') : OsR w' v L := by
  obtain ⟨a, cap, rfl, h2, h3⟩ := h
  refine ⟨a, cap, rfl, h2, ?_⟩
  rcases h3 with h3 | ⟨b, off, h4, h5, h6⟩
  · exact .inl h3
  · refine .inr ⟨b, off, h4, Nat.lt_of_lt_of_le h5 hb.size, fun j hj => ?_⟩
    obtain ⟨g1, g2⟩ := h6 j hj
    exact ⟨fun i hi => (hb.cell (p := ⟨b, off + (j * 7 + i), none⟩) h5).trans (g1 i hi), g2.below hb⟩
def sfPl (s : SfS) (o : SfO) : SfS := if sfLong o = false ∧ o.k ≠ 7 then (sfCall s o).2 else s
def sfPlayed (r : Int) (L : List SfO) : SfS := (L.take 60).foldl sfPl (sfZ r)
theorem sfChange_pend (s : SfS) (a : SfA) : (sfChange s a).2.pend.length ≤ s.pend.length + 1 := by
  unfold sfChange
  split
  · simp only [List.length_append]; rw [sfPlan_pend]; simp
  · rw [sfPlan_pend]; omega
theorem sfCall_pend (s : SfS) (o : SfO) : (sfCall s o).2.pend.length ≤ s.pend.length + 1 := by
  unfold sfCall
  split
  · unfold sfCreate
    split
    · simp
    · split
      · simp
      · split
        · simp
        · exact sfChange_pend (sfNew s) _
  · split
    · unfold sfAppend
      split
      · simp
      · split
        · simp
        · split
          · simp
          · split
            · show (sfPlan s).2.pend.length ≤ _; rw [sfPlan_pend]; omega
            · rw [sfPlan_pend]; omega
    · split
      · unfold sfSync
        split
        · simp
        · split
          · show (sfPlan s).2.pend.length ≤ _; rw [sfPlan_pend]; omega
          · rw [sfPlan_pend]; omega
      · split
        · unfold sfRename
          split
          · simp
          · split
            · simp
            · exact sfChange_pend s _
        · split
          · unfold sfRemove
            split
            · simp
            · exact sfChange_pend s _
          · split
            · unfold sfSyncDir
              split
              · simp [sfSettle]
              · rw [sfPlan_pend]; omega
            · split
              · simp [sfCrash, sfSettle]
              · split
                · unfold sfFail
                  split
                  · simp
                  · split <;> simp
                · simp
theorem sfPl_pend (s : SfS) (o : SfO) : (sfPl s o).pend.length ≤ s.pend.length + 1 := by
  unfold sfPl
  split
  · exact sfCall_pend s o
  · omega
theorem foldl_take_pl {L : List SfO} {j : Nat} (hj : j < L.length) (s : SfS) : (L.take (j + 1)).foldl sfPl s = sfPl ((L.take j).foldl sfPl s) L[j] := by
  rw [List.take_add_one, List.getElem?_eq_getElem hj, List.foldl_append]; rfl
theorem long_false {o : SfO} (h : sfLong o = false) : o.b.length ≤ 500 ∧ o.nm.length ≤ 200 ∧ o.to.length ≤ 200 ∧ o.ks.length ≤ 300 := by
  unfold sfLong at h
  simp only [Bool.or_eq_false_iff, decide_eq_false_iff_not] at h
  omega
/-- A file system that was made since base. -/
def FsB (w : World) (base : Nat) (p : Value) (s : SfS) : Prop := Fs w (fun k => base ≤ k ∧ k < w.heap.size) p s
theorem FsB.below {w w' : World} {base : Nat} {p : Value} {s : SfS} (h : FsB w base p s) (hb : Below w.heap.size w w') : FsB w' base p s := Fs.wider (Fs.below h hb) (fun k q => ⟨q.1, by have := hb.size; omega⟩) (fun k q => q.2)
theorem FsR.fsB {w w' : World} {base : Nat} {p : Value} {r : Int × SfS} {e : Ending} (h : FsR w (fun k => base ≤ k ∧ k < w.heap.size) p r e w') (hb : base ≤ w.heap.size) : e = .returned (.int .i64 r.1) ∧ FsB w' base p r.2 ∧ Below base w w' := by
  obtain ⟨h1, h2, h3⟩ := h
  refine ⟨h1, Fs.wider h2 (fun k q => ⟨?_, h2.lt k q⟩) (fun k q => q.2), h3.below hb (fun k q => q.1)⟩
  rcases q with q | q
  · exact q.1
  · omega
theorem fsB_call {w : World} {base : Nat} {p : Value} {s : SfS} (h : FsB w base p s) (hbs : base ≤ w.heap.size) {W : World} (hB : Below base W w) (hW : W.heap.size = base) {o : SfO} (ho : SfOk W o) (hbl : o.b.length ≤ 140737488355328) (hpn : s.pend.length < 1099511627776) :
    Calls Try.prog 11 #[p, .agg (o7 o).toArray] w fun e w' => e = .returned (.int .i64 (sfCall s o).1) ∧ FsB w' base p (sfCall s o).2 ∧ Below base w w' :=
  (call_any h o (fun _ q => ho.below (hW ▸ (hB.trans (q.below hbs (fun _ z => z.1))))) hbl hpn).mono fun _ _ q => q.fsB hbs
def PlPost (r : Int) (L : List SfO) (w : World) (e : Ending) (w' : World) : Prop := Below w.heap.size w w' ∧ ((r < 1 ∧ e = .returned (.pointer none)) ∨ (1 ≤ r ∧ ∃ g, e = .returned (.pointer (some ⟨g, 0, none⟩)) ∧ FsB w' w.heap.size (.pointer (some ⟨g, 0, none⟩)) (sfPlayed r L) ∧ (sfPlayed r L).pend.length ≤ 60))
set_option maxRecDepth 100000 in
set_option maxHeartbeats 8000000 in
theorem played_any (r : Int) (hr1 : -9223372036854775808 ≤ r) (hr2 : r < 9223372036854775808) (ov : Value) (L : List SfO) (w : World) (hL : OsR w ov L) :
    Calls Try.prog 15 #[.int .i64 r, ov] w (PlPost r L w) := by
  have _ := hr1
  obtain ⟨a, cap, rfl, hll, hcs⟩ := hL
  have hll' : (L.length : Int) ≤ 9223372036854775807 := by simp only [maxLen] at hll; omega
  by_cases hr : r < 1
  · clear hcs
    go_enter Try.func15, Try.ntmps15
    go_wp2_with (go_at_call 23; refine (new_no r _ hr).mono ?_; rintro e w' ⟨rfl, hw'⟩; subst w')
    go_ret
    exact ⟨Below.refl _ _, .inl ⟨hr, rfl⟩⟩
  · have hr' : 1 ≤ r := by omega
    have HCS := (show Hid (L = [] ∨ ∃ b off, a = some ⟨b, off, none⟩ ∧ b < w.heap.size ∧ ∀ j (hj : j < L.length), (∀ i (hi : i < 7), w.cell? ⟨b, off + (j * 7 + i), none⟩ = some ((o7 L[j])[i]'hi)) ∧ SfOk w L[j]) from hcs)
    clear hcs
    go_enter Try.func15, Try.ntmps15
    go_wp2_with fail
    refine (fs_new r _ hr' hr2).mono ?_
    rintro e w1 ⟨p, rfl, hf1, hb1⟩
    obtain ⟨g, rfl⟩ := hf1.ptr
    have HF1 : Hid (FsB w1 w.heap.size (.pointer (some ⟨g, 0, none⟩)) (sfZ r)) := hf1
    have HB1 : Hid (Below w.heap.size w w1) := hb1
    clear hf1 hb1
    go_wp2_with fail
    go_loopw [7] (fun i wr => ∃ j : Nat, i = .int .i64 (j : Int) ∧ j ≤ L.length ∧ j ≤ 60 ∧ Hid (FsB wr w.heap.size (.pointer (some ⟨g, 0, none⟩)) ((L.take j).foldl sfPl (sfZ r))) ∧ Hid (((L.take j).foldl sfPl (sfZ r)).pend.length ≤ j) ∧ Hid (Below w.heap.size w wr)) (fun i _ => 60 - (intOf i).toNat)
    case atStart => exact ⟨0, rfl, by omega, by omega, HF1, by simp [Hid, sfZ], HB1⟩
    case round =>
      obtain ⟨j, rfl, hj, hj60, HF, HP, HB⟩ := hrel
      by_cases hlt : j < L.length
      · have hlt' : (j : Int) < (L.length : Int) := by omega
        by_cases h60 : j < 60
        · have h60' : (j : Int) < 60 := by omega
          rcases HCS.out with hL0 | ⟨b, off, hab, hbl, hcell⟩
          · rw [hL0] at hlt; simp at hlt
          · subst hab
            obtain ⟨hc, hok⟩ := hcell j hlt
            obtain ⟨S, HS⟩ := hid_ex ((L.take j).foldl sfPl (sfZ r))
            have HNX : Hid ((L.take (j + 1)).foldl sfPl (sfZ r) = sfPl S L[j]) := by show _ = _; rw [HS.out]; exact foldl_take_pl hlt _
            rw [← HS.out] at HF HP
            obtain ⟨o, HO⟩ := hid_ex L[j]
            rw [← HO.out] at hc hok HNX
            have hcw : ∀ i (hi : i < 7), wr.cell? ⟨b, off + j * 7 + i, none⟩ = some ((o7 o)[i]'hi) := fun i hi => by
              rw [Nat.add_assoc]; exact (HB.out.cell (p := ⟨b, off + (j * 7 + i), none⟩) hbl).trans (hc i hi)
            have y0 := hcw 0 (by decide)
            have y1 := hcw 1 (by decide)
            have y2 := hcw 2 (by decide)
            have y3 := hcw 3 (by decide)
            have y4 := hcw 4 (by decide)
            have y5 := hcw 5 (by decide)
            have y6 := hcw 6 (by decide)
            rw [Nat.add_zero] at y0
            obtain ⟨ba, bcp, hbv, -⟩ := hok.rb.form
            obtain ⟨ka, kcp, hkv, -⟩ := hok.rk.form
            simp only [o7, List.getElem_cons_zero, List.getElem_cons_succ] at y0 y1 y2 y3 y4 y5 y6
            rw [hbv] at y3
            rw [hkv] at y5
            have HA7 : Hid ((o7 o).toArray = #[.int .i64 o.k, .string ⟨o.nm.toArray⟩, .string ⟨o.to.toArray⟩, .slice ba o.b.length bcp, .int .i64 o.n, .slice ka o.ks.length kcp, .int .i64 o.e]) := by show _ = _; unfold o7; rw [hbv, hkv]
            have HOK : Hid (SfOk w o) := hok
            have HLG : Hid (Calls Try.prog 9 #[.agg #[.int .i64 o.k, .string ⟨o.nm.toArray⟩, .string ⟨o.to.toArray⟩, .slice ba o.b.length bcp, .int .i64 o.n, .slice ka o.ks.length kcp, .int .i64 o.e]] wr fun e w' => e = .returned (.bool (sfLong o)) ∧ Below wr.heap.size wr w') := HA7.out ▸ long_any (hok.below HB.out)
            have HCW : Hid (∀ w', Below w.heap.size w w' → w'.cell? ⟨b, off + j * 7, none⟩ = some (.int .i64 o.k) ∧ w'.cell? ⟨b, off + j * 7 + 1, none⟩ = some (.string ⟨o.nm.toArray⟩) ∧ w'.cell? ⟨b, off + j * 7 + 2, none⟩ = some (.string ⟨o.to.toArray⟩) ∧ w'.cell? ⟨b, off + j * 7 + 3, none⟩ = some (.slice ba o.b.length bcp) ∧ w'.cell? ⟨b, off + j * 7 + 4, none⟩ = some (.int .i64 o.n) ∧ w'.cell? ⟨b, off + j * 7 + 5, none⟩ = some (.slice ka o.ks.length kcp) ∧ w'.cell? ⟨b, off + j * 7 + 6, none⟩ = some (.int .i64 o.e)) := by
              intro w' hb
              have q : ∀ i (hi : i < 7), w'.cell? ⟨b, off + j * 7 + i, none⟩ = wr.cell? ⟨b, off + j * 7 + i, none⟩ := fun i hi => (hb.cell (p := ⟨b, off + j * 7 + i, none⟩) hbl).trans (HB.out.cell (p := ⟨b, off + j * 7 + i, none⟩) hbl).symm
              exact ⟨(q 0 (by decide)).trans y0, (q 1 (by decide)).trans y1, (q 2 (by decide)).trans y2, (q 3 (by decide)).trans y3, (q 4 (by decide)).trans y4, (q 5 (by decide)).trans y5, (q 6 (by decide)).trans y6⟩
            clear hc hok hcw hcell hbv hkv hbl
            have HPL : Hid ((sfPl S o).pend.length ≤ j + 1) := by
              have h1 := sfPl_pend S o
              have h2 := HP.out
              show _ ≤ _
              omega
            cases hlo : sfLong o with
            | true =>
              have HPS : Hid (sfPl S o = S) := by show sfPl S o = S; unfold sfPl; rw [if_neg (by simp [hlo])]
              rw [hlo] at HLG
              go_wp2_with fail
              refine HLG.out.mono ?_
              rintro e w3 ⟨rfl, hb3⟩
              have HF3 : Hid (FsB w3 w.heap.size (.pointer (some ⟨g, 0, none⟩)) S) := HF.out.below hb3
              have HB3 : Hid (Below w.heap.size w w3) := HB.out.trans (hb3.mono HB.out.size)
              clear hb3 y0 y1 y2 y3 y4 y5 y6 hlo
              go_wp2_with fail
              go_roundw
              case rel => exact ⟨j + 1, by go_num, by omega, by omega, by rw [HNX.out, HPS.out]; exact HF3, by rw [HNX.out]; exact HPL, HB3⟩
              case measure => simp [intOf]; omega
            | false =>
              rw [hlo] at HLG
              by_cases h7 : o.k = 7
              · have HPS : Hid (sfPl S o = S) := by show sfPl S o = S; unfold sfPl; rw [if_neg (by simp [h7])]
                have H7 : Hid (o.k = 7) := h7
                clear h7 hlo
                go_wp2_with fail
                refine HLG.out.mono ?_
                rintro e w3 ⟨rfl, hb3⟩
                have HF3 : Hid (FsB w3 w.heap.size (.pointer (some ⟨g, 0, none⟩)) S) := HF.out.below hb3
                have HB3 : Hid (Below w.heap.size w w3) := HB.out.trans (hb3.mono HB.out.size)
                clear hb3 y0 y1 y2 y3 y4 y5 y6
                obtain ⟨z0, z1, z2, z3, z4, z5, z6⟩ := HCW.out w3 HB3.out
                rw [H7.out] at z0
                go_wp2_with fail
                go_roundw
                case rel => exact ⟨j + 1, by go_num, by omega, by omega, by rw [HNX.out, HPS.out]; exact HF3, by rw [HNX.out]; exact HPL, HB3⟩
                case measure => simp [intOf]; omega
              · have HPS : Hid (sfPl S o = (sfCall S o).2) := by show sfPl S o = _; unfold sfPl; rw [if_pos ⟨hlo, h7⟩]
                have i7 : (o.k != 7) = true := by simpa using h7
                have HLF : Hid (o.b.length ≤ 500) := (long_false hlo).1
                have HI7 : Hid ((o.k != 7) = true) := i7
                clear h7 hlo i7
                go_wp2_with fail
                refine HLG.out.mono ?_
                rintro e w3 ⟨rfl, hb3⟩
                have HF3 : Hid (FsB w3 w.heap.size (.pointer (some ⟨g, 0, none⟩)) S) := HF.out.below hb3
                have HB3 : Hid (Below w.heap.size w w3) := HB.out.trans (hb3.mono HB.out.size)
                have HCL : Hid (Calls Try.prog 11 #[.pointer (some ⟨g, 0, none⟩), .agg #[.int .i64 o.k, .string ⟨o.nm.toArray⟩, .string ⟨o.to.toArray⟩, .slice ba o.b.length bcp, .int .i64 o.n, .slice ka o.ks.length kcp, .int .i64 o.e]] w3 fun e w' => e = .returned (.int .i64 (sfCall S o).1) ∧ FsB w' w.heap.size (.pointer (some ⟨g, 0, none⟩)) (sfCall S o).2 ∧ Below w.heap.size w3 w') :=
                  HA7.out ▸ fsB_call HF3.out HB3.out.size HB3.out rfl HOK.out (by have := HLF.out; omega) (by have := HP.out; omega)
                clear hb3 y0 y1 y2 y3 y4 y5 y6
                have i7 := HI7.out
                obtain ⟨z0, z1, z2, z3, z4, z5, z6⟩ := HCW.out w3 HB3.out
                go_wp2_with fail
                refine HCL.out.mono ?_
                rintro e w4 ⟨rfl, hf4, hb4⟩
                have HF4 : Hid (FsB w4 w.heap.size (.pointer (some ⟨g, 0, none⟩)) (sfCall S o).2) := hf4
                have HB4 : Hid (Below w.heap.size w w4) := HB3.out.trans hb4
                clear hf4 hb4 z0 z1 z2 z3 z4 z5 z6
                go_wp2_with fail
                go_roundw
                case rel => exact ⟨j + 1, by go_num, by omega, by omega, by rw [HNX.out, HPS.out]; exact HF4, by rw [HNX.out]; exact HPL, HB4⟩
                case measure => simp [intOf]; omega
        · have h60' : ¬ (j : Int) < 60 := by omega
          have hj : j = 60 := by omega
          have HEN : Hid (FsB wr w.heap.size (.pointer (some ⟨g, 0, none⟩)) (sfPlayed r L) ∧ (sfPlayed r L).pend.length ≤ 60) := by
            subst hj
            exact ⟨HF.out, HP.out⟩
          clear HF HP HCS
          go_wp2_with fail
          go_ret
          exact ⟨HB.out, .inr ⟨hr', g, rfl, HEN.out.1, HEN.out.2⟩⟩
      · have hlt' : ¬ (j : Int) < (L.length : Int) := by omega
        have HEN : Hid (FsB wr w.heap.size (.pointer (some ⟨g, 0, none⟩)) (sfPlayed r L) ∧ (sfPlayed r L).pend.length ≤ 60) := by
          have e1 : L.take 60 = L.take j := by rw [List.take_of_length_le (by omega), List.take_of_length_le (by omega)]
          unfold sfPlayed
          rw [e1]
          exact ⟨HF.out, by have := HP.out; omega⟩
        clear HF HP HCS
        go_wp2_with fail
        go_ret
        exact ⟨HB.out, .inr ⟨hr', g, rfl, HEN.out.1, HEN.out.2⟩⟩
end Go.Proofs.Yteajfbgodfpioaa
