/- The contracts of key.joined and key.Group. -/
import Derived.Test.YtbcdmammedabmaaK1
import Derived.Test.YtbcdmammedabmaaC9
namespace Go.Proofs.Ytbcdmammedabmaa
open Go.RowKit

/-- The dimensions' bytes, and those of the group. -/
def jb (L : List ByteArray) : List UInt8 := L.flatMap fun s => 1 :: tx s.data.toList
def jn (L : List ByteArray) : List UInt8 := jb L ++ [0]
theorem jb_snoc (L : List ByteArray) (s : ByteArray) : jb (L ++ [s]) = jb L ++ 1 :: tx s.data.toList := by simp [jb]
theorem jb_cons (s : ByteArray) (L : List ByteArray) : jb (s :: L) = 1 :: (tx s.data.toList ++ jb L) := by simp [jb]
theorem tx_len (l : List UInt8) : (tx l).length ≤ 2 * l.length + 2 := by
  have := txb_len l
  unfold tx; simp; omega
theorem jb_len (L : List ByteArray) (h : ∀ s ∈ L, s.size ≤ 16) : (jb L).length ≤ 35 * L.length := by
  induction L with
  | nil => simp [jb]
  | cons s L ih =>
    have h1 := h s (List.mem_cons_self ..)
    have h2 := ih fun t ht => h t (List.mem_cons_of_mem _ ht)
    have h3 := tx_len s.data.toList
    have h4 : s.data.toList.length = s.size := Array.length_toList
    rw [jb_cons]; simp; omega
theorem sread_in {w w' : World} {b off n : Nat} {L : List ByteArray} (hb : Below n w w') (hbn : b < n) (h : ∀ j (h : j < L.length), w.cell? ⟨b, off + j, none⟩ = some (.string L[j])) : ∀ j (h : j < L.length), w'.cell? ⟨b, off + j, none⟩ = some (.string L[j]) := fun j hj => (hb.cell (p := ⟨b, off + j, none⟩) hbn).trans (h j hj)
set_option maxRecDepth 100000 in
set_option maxHeartbeats 1000000 in
theorem joined_some (b off cap : Nat) (L : List ByteArray) (h4 : L.length ≤ 4) (h16 : ∀ s ∈ L, s.size ≤ 16) (w : World) (hbw : b < w.heap.size) (hc : ∀ j (h : j < L.length), w.cell? ⟨b, off + j, none⟩ = some (.string L[j])) :
    Calls Try.prog 25 #[.slice (some ⟨b, off, none⟩) L.length cap] w fun e w' => ∃ v, e = .returned v ∧ Own w' w.heap.size v (jn L) ∧ Below w.heap.size w w' := by
  have HC : Hid (∀ j (h : j < L.length), w.cell? ⟨b, off + j, none⟩ = some (.string L[j])) := hc
  have HS : Hid (∀ s ∈ L, s.size ≤ 16) := h16
  clear hc h16
  go_enter Try.func25, Try.ntmps25
  go_wp2_with fail
  go_loopw [3, 8] (fun x i wr => ∃ (k : Nat) (M : List UInt8), k ≤ L.length ∧ i = .int .i64 (k : Int) ∧ Hid (M = jb (L.take k)) ∧ Own wr w.heap.size x M ∧ Hid (Below w.heap.size w wr)) (fun _ i _ => L.length - (intOf i).toNat)
  case atStart => exact ⟨0, [], by omega, rfl, rfl, Own.nil _ _, Below.refl _ _⟩
  case round =>
    obtain ⟨k, M, hk, rfl, HM, HR, HB⟩ := hrel
    have hsz := HB.out.size
    have hml : M.length ≤ 140 := by
      have := jb_len (L.take k) fun s hs => HS.out s (List.mem_of_mem_take hs)
      rw [← HM.out] at this; simp at this; omega
    by_cases hlt : k < L.length
    · have hcell := (HB.out.cell (p := ⟨b, off + k, none⟩) hbw).trans (HC.out k hlt)
      have hsk := HS.out _ (List.getElem_mem hlt)
      obtain ⟨M1, HM1⟩ := hid_ex (M ++ [(1 : UInt8)])
      obtain ⟨M2, HM2⟩ := hid_ex (M1 ++ tx L[k].data.toList)
      have HE : Hid (M2 = jb (L.take (k + 1))) := by
        rw [HM2.out, HM1.out, HM.out, List.take_succ_eq_append_getElem hlt, jb_snoc, List.append_assoc]; rfl
      have hm1 : M1.length = M.length + 1 := by rw [HM1.out]; simp
      have htl : (tx L[k].data.toList).length ≤ 34 := by
        have := tx_len L[k].data.toList
        have h4 : L[k].data.toList.length = L[k].size := Array.length_toList
        omega
      generalize L[k] = s at *
      have hss : s.size ≤ 10000 := by omega
      go_wp2_with (at_builtin; refine wpList_app1 rfl _ _ rfl w.heap.size _ M 1 M1 HM1.out rfl rfl rfl HR (by omega) hsz ?_)
      intro v1 w1 HR1 hb1
      have HB1 : Hid (Below w.heap.size w w1) := HB.out.trans hb1.out
      have hsz1 := HB1.out.size
      clear hb1 HR hcell HB hsz
      go_wp2_with fail
      refine (text_any s hss _).mono ?_
      rintro e w2 ⟨vt, rfl, hot, hb2⟩
      have HB2 : Hid (Below w.heap.size w w2) := HB1.out.trans (hb2.mono hsz1)
      have HR2 : Own w2 w.heap.size v1 M1 := HR1.below hb2
      have hrt : Reads w2 vt (tx s.data.toList) := reads_own hot
      have hsz2 := HB2.out.size
      clear hb2 HR1 hot HB1 hsz1
      go_wp2_with (at_builtin; refine wpList_app rfl _ _ rfl w.heap.size _ _ M1 (tx s.data.toList) M2 HM2.out rfl rfl HR2 hrt (by omega) hsz2 ?_)
      intro v3 w3 HR3 hb3
      have HB3 : Hid (Below w.heap.size w w3) := HB2.out.trans hb3.out
      clear hb3 HR2 HB2 hsz2 hrt
      go_wp2_with fail
      go_roundw
      case rel => exact ⟨k + 1, M2, by omega, by go_num, HE, HR3, HB3⟩
      case measure => simp [intOf]; omega
    · obtain ⟨M1, HM1⟩ := hid_ex (M ++ [(0 : UInt8)])
      have HE : Hid (M1 = jn L) := by
        rw [HM1.out, HM.out, List.take_of_length_le (by omega)]; rfl
      go_wp2_with (at_builtin; refine wpList_app1 rfl _ _ rfl w.heap.size _ M 0 M1 HM1.out rfl rfl rfl HR (by omega) hsz ?_)
      intro v1 w1 HR1 hb1
      have HB1 : Hid (Below w.heap.size w w1) := HB.out.trans hb1.out
      clear hb1 HR HB
      go_wp2_with fail
      go_ret
      exact ⟨_, rfl, by rw [← HE.out]; exact HR1, HB1.out⟩
set_option maxRecDepth 100000 in
set_option maxHeartbeats 1000000 in
theorem joined_none (a : Option Addr) (cap : Nat) (w : World) :
    Calls Try.prog 25 #[.slice a 0 cap] w fun e w' => ∃ v, e = .returned v ∧ Own w' w.heap.size v (jn []) ∧ Below w.heap.size w w' := by
  go_enter Try.func25, Try.ntmps25
  go_wp2_with fail
  go_loop [3, 8] (fun x i => i = .int .i64 0 ∧ x = .slice none 0 0) (fun _ _ => 0)
  case atStart => exact ⟨rfl, rfl⟩
  case round =>
    obtain ⟨rfl, rfl⟩ := hrel
    go_wp2_with (at_builtin; refine wpList_app1 rfl _ _ rfl w.heap.size _ [] 0 (jn []) rfl rfl rfl rfl (Own.nil _ _) (by simp) (Nat.le_refl _) ?_)
    intro v1 w1 HR1 hb1
    go_wp2_with fail
    go_ret
    exact ⟨_, rfl, HR1, hb1.out⟩
theorem joined_any (v : Value) (L : List ByteArray) (hm : mayB L = true) (w : World) (h : SReads w v L) :
    Calls Try.prog 25 #[v] w fun e w' => ∃ v, e = .returned v ∧ Own w' w.heap.size v (jn L) ∧ Below w.heap.size w w' := by
  obtain ⟨hm1, hm2⟩ := mayB_iff.1 hm
  rcases h with ⟨rfl, a, cap, rfl, _⟩ | ⟨b, off, cap, rfl, h2, h3, h4, h5, h6, h7⟩
  · exact joined_none a cap w
  · exact joined_some b off cap L hm1 hm2 w h5 h6
theorem group_yes (v : Value) (L : List ByteArray) (hm : mayB L = true) (w : World) (h : SReads w v L) :
    Calls Try.prog 18 #[v] w fun e w' => ∃ v, e = .returned (.tuple #[v, .int .i64 0]) ∧ Own w' w.heap.size v (jn L) ∧ Below w.heap.size w w' := by
  go_enter Try.func18, Try.ntmps18
  go_wp2_with fail
  refine (mayBe_any _ L _ h).mono ?_
  rintro e w1 ⟨rfl, hw⟩
  subst w1
  rw [hm]
  have HM : Hid (mayB L = true) := hm
  clear hm
  go_wp2_with fail
  refine (joined_any _ L HM.out _ h).mono ?_
  rintro e w1 ⟨v1, rfl, HO1, hb1⟩
  clear h
  go_wp2_with fail
  go_ret2
  exact ⟨_, rfl, HO1, hb1⟩
theorem group_no (v : Value) (L : List ByteArray) (hm : mayB L = false) (w : World) (h : SReads w v L) :
    Calls Try.prog 18 #[v] w fun e w' => e = .returned (.tuple #[.slice none 0 0, .int .i64 40]) ∧ w' = w := by
  go_enter Try.func18, Try.ntmps18
  go_wp2_with fail
  refine (mayBe_any _ L _ h).mono ?_
  rintro e w1 ⟨rfl, hw⟩
  subst w1
  rw [hm]
  clear h hm
  go_wp2_with fail
  go_ret2
  exact ⟨rfl, rfl⟩
end Go.Proofs.Ytbcdmammedabmaa
