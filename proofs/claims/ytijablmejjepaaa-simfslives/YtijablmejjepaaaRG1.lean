/- The document's file system: names but one. -/
import Derived.Test.YtijablmejjepaaaSFT
namespace Go.Proofs.Ytijablmejjepaaa
open Go.RowKit Go.Maps Go.Sort

def nm2 (p : List UInt8 × Nat) : List Value := [.string ⟨p.1.toArray⟩, .int .i64 (p.2 : Int)]
/-- Names, in a row of one's own. -/
def NOwn (w : World) (v : Value) (l : List (List UInt8 × Nat)) : Prop := GOwn w 63 2 v l.length (l.flatMap nm2)
theorem flat2 : ∀ (l : List (List UInt8 × Nat)) (j : Nat) (hj : j < l.length) (i : Nat), i < 2 → (l.flatMap nm2)[j * 2 + i]? = (nm2 l[j])[i]?
  | a :: l, 0, _, i, hi => by
    rw [List.flatMap_cons, List.getElem?_append_left (by simp [nm2]; omega)]
    simp
  | a :: l, j + 1, hj, i, hi => by
    rw [List.flatMap_cons, List.getElem?_append_right (by simp [nm2]; omega)]
    have := flat2 l j (by simpa using hj) i hi
    rw [show (j + 1) * 2 + i - (nm2 a).length = j * 2 + i by simp [nm2]; omega, this]
    simp
theorem NOwn.at {w : World} {q n cap : Nat} {l : List (List UInt8 × Nat)} (h : NOwn w (.slice (some ⟨q, 0, none⟩) n cap) l) (j : Nat) (hj : j < l.length) : w.cell? ⟨q, j * 2, none⟩ = some (.string ⟨(l[j]).1.toArray⟩) ∧ w.cell? ⟨q, j * 2 + 1, none⟩ = some (.int .i64 ((l[j]).2 : Int)) := by
  have key : ∀ i u, i < 2 → (nm2 l[j])[i]? = some u → w.cell? ⟨q, j * 2 + i, none⟩ = some u := fun i u hi hu => by
    have := GOwn.cells h (g := q) rfl (j * 2 + i) u (by rw [flat2 l j hj i hi]; exact hu)
    have ea : (⟨q, 0, none⟩ : Addr).add (j * 2 + i) = ⟨q, j * 2 + i, none⟩ := by simp [Addr.add]; omega
    rw [ea] at this
    exact this
  exact ⟨key 0 _ (by decide) rfl, key 1 _ (by decide) rfl⟩
theorem infoN : (Try.prog.info? 63).map (fun i => (i.zero, i.size, i.bytes)) = some (some (.agg #[.string ⟨#[]⟩, .int .i64 0]), 2, 24) := by kernel_rfl
theorem run_appN {w : World} (ty : TypeId) (v vx : Value) (P Q : List (List UInt8 × Nat)) (h : NOwn w v P) (hx : GSrc w 2 vx Q.length (Q.flatMap nm2)) (hl : P.length + Q.length < 1099511627776) :
    ∃ v' w', (Builtin.append_ #[45, 45] ty #[v, vx]).run Try.prog w = .ok v' w' ∧ NOwn w' v' (P ++ Q) ∧ w.grownBy w' v.ownBlock ∧ (∀ k, v'.ownBlock = some k → v.ownBlock = some k ∨ (w.heap.size ≤ k ∧ k < w'.heap.size)) := by
  obtain ⟨i0, hi, hz0, hz1, hz2⟩ := info_parts infoN
  obtain ⟨v', w', h1, h2, h3, h4⟩ := run_gapp (P := Try.prog) 45 ty 63 i0 _ 2 24 Try.underlying45 hi hz0 hz1 hz2 rfl v P.length _ h vx Q.length (Q.flatMap nm2) hx (by
    intro u hu
    obtain ⟨p, _, hp⟩ := List.mem_flatMap.1 hu
    simp only [nm2, List.mem_cons, List.not_mem_nil, or_false] at hp
    rcases hp with rfl | rfl <;> rfl) (by simp only [maxLen]; omega) (by omega)
  exact ⟨v', w', h1, by unfold NOwn; rw [List.length_append, List.flatMap_append]; exact h2, h3, h4⟩
theorem sfDel_take {s : List UInt8} {l : List (List UInt8 × Nat)} {j : Nat} (hj : j < l.length) : sfDel s (l.take (j + 1)) = sfDel s (l.take j) ++ (if l[j].1 = s then [] else [l[j]]) := by
  unfold sfDel
  rw [List.take_add_one, List.getElem?_eq_getElem hj, List.filter_append]
  congr 1
  by_cases e : l[j].1 = s
  · simp [e]
  · simp [e]
set_option maxRecDepth 100000 in
set_option maxHeartbeats 4000000 in
theorem without_any {w : World} {v : Value} {l : List (List UInt8 × Nat)} (h : NOwn w v l) (s : List UInt8) (hl : l.length < 1000000) :
    Calls Try.prog 53 #[v, .string ⟨s.toArray⟩] w fun e w' => ∃ v', e = .returned v' ∧ NOwn w' v' (sfDel s l) ∧ (∀ k, v'.ownBlock = some k → w.heap.size ≤ k ∧ k < w'.heap.size) ∧ Below w.heap.size w w' := by
  obtain ⟨a, cap, rfl, hc1, hc2, hc3, hc4⟩ := GOwn.form h
  have HV : Hid (NOwn w (.slice a l.length cap) l) := h
  clear h
  go_enter Try.func53, Try.ntmps53
  go_wp2_with fail
  go_loopw [5, 6] (fun o i wr => ∃ j : Nat, i = .int .i64 (j : Int) ∧ j ≤ l.length ∧ Hid (NOwn wr o (sfDel s (l.take j))) ∧ Hid (∀ k, o.ownBlock = some k → w.heap.size ≤ k ∧ k < wr.heap.size) ∧ Hid (Below w.heap.size w wr)) (fun _ i _ => l.length - (intOf i).toNat)
  case atStart => exact ⟨0, rfl, by omega, GOwn.nil _ _ _, fun k hk => by simp [Value.ownBlock] at hk, Below.refl _ _⟩
  case round =>
    obtain ⟨j, rfl, hj, HO, HK, HB⟩ := hrel
    by_cases hlt : j < l.length
    · have hlt' : (j : Int) < (l.length : Int) := by omega
      cases a with
      | none => have := (hc4 rfl).1; omega
      | some q =>
        obtain ⟨q, rfl⟩ : ∃ b : Nat, q = ⟨b, 0, none⟩ := ⟨_, hc3 q rfl⟩
        have hq : q < w.heap.size := by
          obtain ⟨cur, hc⟩ := GOwn.block HV.out (k := q) rfl
          exact (Array.getElem?_eq_some_iff.1 hc).1
        have hv := HV.out.keep (w' := wr) (fun k hk => by
          obtain rfl : q = k := by simpa [Value.ownBlock] using hk
          exact HB.out.block _ hq)
        obtain ⟨x0, x1⟩ := NOwn.at hv j hlt
        obtain ⟨P, HP⟩ := hid_ex l[j]
        rw [← HP.out] at x0 x1
        have HST : Hid (sfDel s (l.take (j + 1)) = sfDel s (l.take j) ++ (if P.1 = s then [] else [P])) := by show _ = _; rw [HP.out]; exact sfDel_take hlt
        obtain ⟨Dl, HDl⟩ := hid_ex (sfDel s (l.take j))
        have hdl : Dl.length ≤ l.length := by
          have h1 := sfDel_le s (l.take j)
          rw [← HDl.out] at h1
          have h2 := List.length_take_le' j l
          omega
        rw [← HDl.out] at HO HST
        obtain ⟨nm, N⟩ := P
        simp only at x0 x1 HST
        clear hv HP
        by_cases hns : nm = s
        · subst hns
          have HS2 : Hid (sfDel nm (l.take (j + 1)) = Dl) := by show _ = _; rw [HST.out, if_pos rfl, List.append_nil]
          clear HST HDl
          go_wp2_with fail
          go_roundw
          case rel => exact ⟨j + 1, by go_num, by omega, by rw [HS2.out]; exact HO, HK, HB⟩
          case measure => simp [intOf]; omega
        · have i2 : ((⟨nm.toArray⟩ : ByteArray).toList == (⟨s.toArray⟩ : ByteArray).toList) = false := by rw [ByteArray.toList_eq, ByteArray.toList_eq]; simpa using hns
          have i3 : (nm == s) = false := by simpa using hns
          have HS2 : Hid (sfDel s (l.take (j + 1)) = Dl ++ [(nm, N)]) := by show _ = _; rw [HST.out, if_neg hns]
          obtain ⟨oa, oc, hov, -⟩ := GOwn.form HO.out
          obtain ⟨M, HM⟩ := hid_ex Dl.length
          rw [← HM.out] at hov hdl
          subst hov
          have ho1 : NOwn (wr.alloc (.cells #[.string ⟨nm.toArray⟩, .int .i64 (N : Int)] 63)) (.slice oa M oc) Dl := HO.out.keep (fun k hk => Below.heap_alloc _ _ _ (HK.out k hk).2)
          obtain ⟨v', w2, hrun, ho2, hgr, hloc⟩ := run_appN (w := wr.alloc (.cells #[.string ⟨nm.toArray⟩, .int .i64 (N : Int)] 63)) 45 (.slice oa M oc) (.slice (some ⟨wr.heap.size, 0, none⟩) 1 1) Dl [(nm, N)] ho1 (by
            refine ⟨rfl, .inr ⟨_, _, rfl, fun k u hk => ?_⟩⟩
            have hb4 := heap_alloc_new wr (.cells #[.string ⟨nm.toArray⟩, .int .i64 (N : Int)] 63)
            match k, hk with
            | 0, hk => simp [nm2] at hk; subst hk; exact cell_of hb4 0 _ rfl
            | 1, hk => simp [nm2] at hk; subst hk; exact cell_of hb4 1 _ rfl) (by rw [← HM.out]; simp; omega)
          have HO2 : Hid (NOwn w2 v' (Dl ++ [(nm, N)])) := ho2
          have hsz := hgr.size
          simp only [World.size_alloc] at hsz
          have HB2 : Hid (Below w.heap.size w w2) := by
            have hba : Below w.heap.size w (wr.alloc (.cells #[.string ⟨nm.toArray⟩, .int .i64 (N : Int)] 63)) := HB.out.alloc (by have := HB.out.size; omega) _
            exact hba.grown hgr (by have := HB.out.size; simp; omega) (fun k hk => (HK.out k hk).1)
          have HK2 : Hid (∀ k, v'.ownBlock = some k → w.heap.size ≤ k ∧ k < w2.heap.size) := fun k hk => by
            have hb := HB.out.size
            rcases hloc k hk with q' | q'
            · have := HK.out k q'; omega
            · simp only [World.size_alloc] at q'; omega
          clear ho1 ho2 hgr hloc HST HDl
          go_wp2_with (at_builtin; refine wpList_app_runG rfl _ _ 45 45 rfl rfl _ _ _ rfl rfl hrun ?_)
          go_roundw
          case rel => exact ⟨j + 1, by go_num, by omega, by rw [HS2.out]; exact HO2, HK2, HB2⟩
          case measure => simp [intOf]; omega
    · have hlt' : ¬ (j : Int) < (l.length : Int) := by omega
      have HE : Hid (NOwn wr u5 (sfDel s l)) := by
        have := HO.out
        rwa [List.take_of_length_le (by omega)] at this
      go_wp2_with fail
      go_ret
      exact ⟨_, rfl, HE.out, HK.out, HB.out⟩
end Go.Proofs.Ytijablmejjepaaa
