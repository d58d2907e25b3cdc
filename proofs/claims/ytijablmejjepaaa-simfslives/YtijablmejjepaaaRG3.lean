/- The document's file system: an act; the file that a name means. -/
import Derived.Test.YtijablmejjepaaaRG2
namespace Go.Proofs.Ytijablmejjepaaa
open Go.RowKit Go.Maps Go.Sort

/-- A file's number; none: -1. -/
def rfN : Option Nat → Int
  | none => -1
  | some i => (i : Int)
set_option maxRecDepth 100000 in
set_option maxHeartbeats 4000000 in
theorem apply_any {w : World} {v : Value} {l : List (List UInt8 × Nat)} (h : NOwn w v l) (a : SfA) (hl : l.length < 1000000) :
    Calls Try.prog 49 #[v, .agg #[.string ⟨a.gone.toArray⟩, .string ⟨a.name.toArray⟩, .int .i64 (rfN a.file)]] w fun e w' => ∃ v', e = .returned v' ∧ NOwn w' v' (sfDo l a) ∧ (∀ k, v'.ownBlock = some k → w.heap.size ≤ k ∧ k < w'.heap.size) ∧ Below w.heap.size w w' := by
  obtain ⟨go, na, fi⟩ := a
  simp only
  obtain ⟨w1, HW1⟩ := hid_ex (w.alloc (.cells #[.string ⟨go.toArray⟩, .string ⟨na.toArray⟩, .int .i64 (rfN fi)] 82))
  have HB01 : Hid (Below w.heap.size w w1) := by rw [HW1.out]; exact (Below.refl _ _).alloc (Nat.le_refl _) _
  have hs01 : w1.heap.size = w.heap.size + 1 := by rw [HW1.out]; simp
  have HX : Hid (w1.heap[w.heap.size]? = some (.cells #[.string ⟨go.toArray⟩, .string ⟨na.toArray⟩, .int .i64 (rfN fi)] 82)) := by rw [HW1.out]; exact heap_alloc_new _ _
  have HV1 : Hid (NOwn w1 v l) := h.keep (fun k hk => by
    obtain ⟨cur, hc⟩ := GOwn.block h hk
    exact HB01.out.block _ (Array.getElem?_eq_some_iff.1 hc).1)
  have c0 := cell_of HX.out 0 _ rfl
  have c1 := cell_of HX.out 1 _ rfl
  have c2 := cell_of HX.out 2 _ rfl
  obtain ⟨a, cap, rfl, -⟩ := GOwn.form h
  clear h
  rw [HW1.out] at c0 c1 c2
  go_enter Try.func49, Try.ntmps49
  go_wp2_with fail
  rw [← HW1.out]
  refine (without_any HV1.out go hl).mono ?_
  rintro e w2 ⟨v2, rfl, hn2, hk2, hb2⟩
  have hLl := sfDel_le go l
  have HN2 : Hid (NOwn w2 v2 (sfDel go l)) := hn2
  have HK2 : Hid (∀ k, v2.ownBlock = some k → w1.heap.size ≤ k ∧ k < w2.heap.size) := hk2
  have hs12 := hb2.size
  have HBw : Hid (Below w.heap.size w w2) := HB01.out.trans (hb2.mono (by omega))
  have HX2 : Hid (w2.heap[w.heap.size]? = some (.cells #[.string ⟨go.toArray⟩, .string ⟨na.toArray⟩, .int .i64 (rfN fi)] 82)) := (hb2.block _ (by omega)).trans HX.out
  clear c0 c1 c2
  have c0 := cell_of HX2.out 0 _ rfl
  have c1 := cell_of HX2.out 1 _ rfl
  have c2 := cell_of HX2.out 2 _ rfl
  clear hn2 hk2 hb2 HX HX2
  cases fi with
  | none =>
    simp only [rfN] at c2 ⊢
    go_wp2_with fail
    go_ret
    exact ⟨_, rfl, HN2.out, fun k hk => by have := HK2.out k hk; omega, HBw.out⟩
  | some i =>
    simp only [rfN] at c2 ⊢
    have hge : (0 : Int) ≤ (i : Int) := by omega
    go_wp2_with fail
    refine (with_any HN2.out na i (by omega)).mono ?_
    rintro e w3 ⟨v3, rfl, hn3, hk3, hb3⟩
    have HN3 : Hid (NOwn w3 v3 (sfDo l ⟨go, na, some i⟩)) := hn3
    have HK3 : Hid (∀ k, v3.ownBlock = some k → w.heap.size ≤ k ∧ k < w3.heap.size) := fun k hk => by have := hk3 k hk; omega
    have HB3 : Hid (Below w.heap.size w w3) := HBw.out.trans (hb3.mono (by omega))
    clear hn3 hk3 hb3 c0 c1 c2
    go_wp2_with fail
    go_ret
    exact ⟨_, rfl, HN3.out, HK3.out, HB3.out⟩
theorem look_none {s : List UInt8} {l : List (List UInt8 × Nat)} (h : ∀ j (hj : j < l.length), l[j].1 ≠ s) : sfLook s l = none := by
  unfold sfLook
  rw [List.find?_eq_none.2 (fun p hp => by
    obtain ⟨j, hj, rfl⟩ := List.getElem_of_mem hp
    simpa using h j hj)]
  rfl
theorem look_some {s : List UInt8} : ∀ {l : List (List UInt8 × Nat)} {k : Nat} (hk : k < l.length), (∀ j (hj : j < l.length), j < k → l[j].1 ≠ s) → l[k].1 = s → sfLook s l = some l[k].2
  | p :: r, 0, _, _, h => by
    simp only [List.getElem_cons_zero] at h ⊢
    simp [sfLook, h]
  | p :: r, k + 1, hk, h1, h => by
    have h0 := h1 0 (by simp) (by omega)
    simp only [List.getElem_cons_zero] at h0
    have ih := look_some (l := r) (k := k) (by simpa using hk) (fun j hj hjk => by have := h1 (j + 1) (by simp; omega) (by omega); simpa using this) (by simpa using h)
    have e : sfLook s (p :: r) = sfLook s r := by simp [sfLook, h0]
    rw [e, ih]
    simp
set_option maxRecDepth 100000 in
set_option maxHeartbeats 4000000 in
theorem refFind_any {w : World} {g : Nat} {v : Value} {l : List (List UInt8 × Nat)} (h : NOwn w v l) (hc : w.cell? ⟨g, 2, none⟩ = some v) (s : List UInt8) (hl : l.length < 1000000) :
    Calls Try.prog 42 #[.pointer (some ⟨g, 0, none⟩), .string ⟨s.toArray⟩] w fun e w' => e = .returned (.int .i64 (rfN (sfLook s l))) ∧ w' = w := by
  obtain ⟨a, cap, rfl, hc1, hc2, hc3, hc4⟩ := GOwn.form h
  have HV : Hid (NOwn w (.slice a l.length cap) l) := h
  clear h
  go_enter Try.func42, Try.ntmps42
  go_wp2_with fail
  go_loopw [5] (fun i wr => ∃ k : Nat, i = .int .i64 (k : Int) ∧ k ≤ l.length ∧ Hid (∀ j (hj : j < l.length), j < k → l[j].1 ≠ s) ∧ wr = w) (fun i _ => l.length - (intOf i).toNat)
  case atStart => exact ⟨0, rfl, by omega, (fun j hj h => by omega), rfl⟩
  case round =>
    obtain ⟨k, rfl, hk, HN, rfl⟩ := hrel
    by_cases hlt : k < l.length
    · have hlt' : (k : Int) < (l.length : Int) := by omega
      cases a with
      | none => have := (hc4 rfl).1; omega
      | some q =>
        obtain ⟨q, rfl⟩ : ∃ b : Nat, q = ⟨b, 0, none⟩ := ⟨_, hc3 q rfl⟩
        obtain ⟨x0, x1⟩ := NOwn.at HV.out k hlt
        have HS : Hid (l[k].1 = s → sfLook s l = some l[k].2) := fun e => look_some hlt HN.out e
        have HT : Hid (l[k].1 ≠ s → ∀ j (hj : j < l.length), j < k + 1 → l[j].1 ≠ s) := fun h2 j hj hjk => by
          rcases Nat.lt_or_ge j k with h | h
          · exact HN.out j hj h
          · have : j = k := by omega
            subst this; exact h2
        obtain ⟨P, HP⟩ := hid_ex l[k]
        rw [← HP.out] at x0 x1 HS HT
        obtain ⟨pn, pk⟩ := P
        simp only at x0 x1 HS HT
        clear HP
        by_cases hns : pn = s
        · subst hns
          have HS2 : Hid (rfN (sfLook pn l) = (pk : Int)) := by show _ = _; rw [HS.out rfl]; rfl
          clear HS HT
          go_wp2_with fail
          go_ret
          exact ⟨by rw [HS2.out]; rfl, rfl⟩
        · have i2 : ((⟨pn.toArray⟩ : ByteArray).toList == (⟨s.toArray⟩ : ByteArray).toList) = false := by rw [ByteArray.toList_eq, ByteArray.toList_eq]; simpa using hns
          have i3 : (pn == s) = false := by simpa using hns
          have HN2 : Hid (∀ j (hj : j < l.length), j < k + 1 → l[j].1 ≠ s) := HT.out hns
          clear HS HT
          go_wp2_with fail
          go_roundw
          case rel => exact ⟨k + 1, by go_num, by omega, HN2.out, trivial⟩
          case measure => simp [intOf]; omega
    · have hlt' : ¬ (k : Int) < (l.length : Int) := by omega
      have HE : Hid (rfN (sfLook s l) = -1) := by show _ = _; rw [look_none (fun j hj => HN.out j hj (by omega))]; rfl
      go_wp2_with fail
      go_ret
      exact ⟨by rw [HE.out]; rfl, rfl⟩
end Go.Proofs.Ytijablmejjepaaa
