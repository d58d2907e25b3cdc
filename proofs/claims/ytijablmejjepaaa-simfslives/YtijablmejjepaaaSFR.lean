/- law11: played. -/
import Derived.Test.YtijablmejjepaaaSFQ
namespace Go.Proofs.Ytijablmejjepaaa
open Go.RowKit Go.Maps Go.Sort

/-- Calls that a slice reads. -/
def OsR (w : World) (v : Value) (L : List SfO) : Prop :=
  ∃ a cap, v = .slice a L.length cap ∧ L.length ≤ maxLen ∧ (L = [] ∨ ∃ b off, a = some ⟨b, off, none⟩ ∧ b < w.heap.size ∧ ∀ j (hj : j < L.length), (∀ i (hi : i < 7), w.cell? ⟨b, off + (j * 7 + i), none⟩ = some ((o7 L[j])[i]'hi)) ∧ SfOk w L[j])
theorem OsR.below {w w' : World} {v : Value} {L : List SfO} (h : OsR w v L) (hb : Below w.heap.size w w') : OsR w' v L := by
  obtain ⟨a, cap, rfl, h2, h3⟩ := h
  refine ⟨a, cap, rfl, h2, ?_⟩
  rcases h3 with h3 | ⟨b, off, h4, h5, h6⟩
  · exact .inl h3
  · refine .inr ⟨b, off, h4, Nat.lt_of_lt_of_le h5 hb.size, fun j hj => ?_⟩
    obtain ⟨g1, g2⟩ := h6 j hj
    exact ⟨fun i hi => (hb.cell (p := ⟨b, off + (j * 7 + i), none⟩) h5).trans (g1 i hi), g2.below hb⟩
def sfPl (s : SfS) (o : SfO) : SfS := if sfLong o = false ∧ o.k ≠ 7 then (sfCall s o).2 else s
def sfPlayed (r : Int) (L : List SfO) : SfS := (L.take 60).foldl sfPl (sfZ r)
theorem sfChange_pend (s : SfS) (a : SfA) : (sfChange s a).2.pend.length ≤ s.pend.length + 1 := by
  unfold sfChange
  split
  · simp only [List.length_append]; rw [sfPlan_pend]; simp
  · rw [sfPlan_pend]; omega
theorem sfCall_pend (s : SfS) (o : SfO) : (sfCall s o).2.pend.length ≤ s.pend.length + 1 := by
  unfold sfCall
  split
  · unfold sfCreate
    split
    · simp
    · split
      · simp
      · split
        · simp
        · exact sfChange_pend (sfNew s) _
  · split
    · unfold sfAppend
      split
      · simp
      · split
        · simp
        · split
          · simp
          · split
            · show (sfPlan s).2.pend.length ≤ _; rw [sfPlan_pend]; omega
            · rw [sfPlan_pend]; omega
    · split
      · unfold sfSync
        split
        · simp
        · split
          · show (sfPlan s).2.pend.length ≤ _; rw [sfPlan_pend]; omega
          · rw [sfPlan_pend]; omega
      · split
        · unfold sfRename
          split
          · simp
          · split
            · simp
            · exact sfChange_pend s _
        · split
          · unfold sfRemove
            split
            · simp
            · exact sfChange_pend s _
          · split
            · unfold sfSyncDir
              split
              · simp [sfSettle]
              · rw [sfPlan_pend]; omega
            · split
              · simp [sfCrash, sfSettle]
              · split
                · unfold sfFail
                  split
                  · simp
                  · split <;> simp
                · simp
theorem sfPl_pend (s : SfS) (o : SfO) : (sfPl s o).pend.length ≤ s.pend.length + 1 := by
  unfold sfPl
  split
  · exact sfCall_pend s o
  · omega
theorem foldl_take_pl {L : List SfO} {j : Nat} (hj : j < L.length) (s : SfS) : (L.take (j + 1)).foldl sfPl s = sfPl ((L.take j).foldl sfPl s) L[j] := by
  rw [List.take_add_one, List.getElem?_eq_getElem hj, List.foldl_append]; rfl
theorem long_false {o : SfO} (h : sfLong o = false) : o.b.length ≤ 500 ∧ o.nm.length ≤ 200 ∧ o.to.length ≤ 200 ∧ o.ks.length ≤ 300 := by
  unfold sfLong at h
  simp only [Bool.or_eq_false_iff, decide_eq_false_iff_not] at h
  omega
/-- A file system that was made since base. -/
def FsB (w : World) (base : Nat) (p : Value) (s : SfS) : Prop := Fs w (fun k => base ≤ k ∧ k < w.heap.size) p s
theorem FsB.below {w w' : World} {base : Nat} {p : Value} {s : SfS} (h : FsB w base p s) (hb : Below w.heap.size w w') : FsB w' base p s := Fs.wider (Fs.below h hb) (fun k q => ⟨q.1, by have := hb.size; omega⟩) (fun k q => q.2)
theorem FsR.fsB {w w' : World} {base : Nat} {p : Value} {r : Int × SfS} {e : Ending} (h : FsR w (fun k => base ≤ k ∧ k < w.heap.size) p r e w') (hb : base ≤ w.heap.size) : e = .returned (.int .i64 r.1) ∧ FsB w' base p r.2 ∧ Below base w w' := by
  obtain ⟨h1, h2, h3⟩ := h
  refine ⟨h1, Fs.wider h2 (fun k q => ⟨?_, h2.lt k q⟩) (fun k q => q.2), h3.below hb (fun k q => q.1)⟩
  rcases q with q | q
  · exact q.1
  · omega
theorem fsB_call {w : World} {base : Nat} {p : Value} {s : SfS} (h : FsB w base p s) (hbs : base ≤ w.heap.size) {W : World} (hB : Below base W w) (hW : W.heap.size = base) {o : SfO} (ho : SfOk W o) (hbl : o.b.length ≤ 140737488355328) (hpn : s.pend.length < 1099511627776) :
    Calls Try.prog 8 #[p, .agg (o7 o).toArray] w fun e w' => e = .returned (.int .i64 (sfCall s o).1) ∧ FsB w' base p (sfCall s o).2 ∧ Below base w w' :=
  (call_any h o (fun _ q => ho.below (hW ▸ (hB.trans (q.below hbs (fun _ z => z.1))))) hbl hpn).mono fun _ _ q => q.fsB hbs
def PlPost (r : Int) (L : List SfO) (w : World) (e : Ending) (w' : World) : Prop := Below w.heap.size w w' ∧ ((r < 1 ∧ e = .returned (.pointer none)) ∨ (1 ≤ r ∧ ∃ g, e = .returned (.pointer (some ⟨g, 0, none⟩)) ∧ FsB w' w.heap.size (.pointer (some ⟨g, 0, none⟩)) (sfPlayed r L) ∧ (sfPlayed r L).pend.length ≤ 60))
end Go.Proofs.Ytijablmejjepaaa
