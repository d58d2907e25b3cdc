/- A file system that is nil, or that no call made; SimfsNobody. (written by mksfn.py) -/
import Derived.Test.YteajfbgodfpioaaSFU
namespace Go.Proofs.Yteajfbgodfpioaa
open Go.RowKit Go.Maps Go.Sort

def Dead (w : World) (p : Value) : Prop := p = .pointer none ∨ ∃ g, p = .pointer (some ⟨g, 0, none⟩) ∧ w.cell? ⟨g, 0, none⟩ = some (.int .i64 0)
theorem Dead.below {w w' : World} {p : Value} (h : Dead w p) (hb : Below w.heap.size w w') : Dead w' p := by
  rcases h with h | ⟨g, h1, h2⟩
  · exact .inl h
  · exact .inr ⟨g, h1, (hb.cell (p := ⟨g, 0, none⟩) (cell_block h2).1).trans h2⟩
theorem made_dead {w : World} {p : Value} (h : Dead w p) : Calls Try.prog 28 #[p] w fun e w' => e = .returned (.bool false) ∧ w' = w := by
  rcases h with rfl | ⟨g, rfl, h2⟩
  · exact made_nil w
  · exact made_zero w h2
theorem find_dead {w : World} {p : Value} (h : Dead w p) (n : List UInt8) : Calls Try.prog 27 #[p, .string ⟨n.toArray⟩] w fun e w' => e = .returned (.tuple #[.pointer none, .int .i64 6]) ∧ w' = w := by
  rcases h with rfl | ⟨g, rfl, h2⟩
  · exact find_nil n w
  · exact find_zero n w h2
theorem dead_Create {w : World} {p : Value} (h : Dead w p) (n : List UInt8) : Calls Try.prog 24 #[p, .string ⟨n.toArray⟩] w fun e w' => e = .returned (.int .i64 6) ∧ w' = w := by
  go_enter Try.func24, Try.ntmps24
  go_wp2_with (go_at_call 28; refine (made_dead h).mono ?_; rintro e w' ⟨rfl, hw'⟩; subst w')
  go_ret
  exact ⟨rfl, rfl⟩
theorem dead_Append {w : World} {p : Value} (h : Dead w p) (n : List UInt8) (ba : Option Addr) (bl bc : Nat) : Calls Try.prog 21 #[p, .string ⟨n.toArray⟩, .slice ba bl bc] w fun e w' => e = .returned (.int .i64 6) ∧ w' = w := by
  go_enter Try.func21, Try.ntmps21
  go_wp2_with (go_at_call 27; refine (find_dead h n).mono ?_; rintro e w' ⟨rfl, hw'⟩; subst w')
  go_ret
  exact ⟨rfl, rfl⟩
theorem dead_Sync {w : World} {p : Value} (h : Dead w p) (n : List UInt8) : Calls Try.prog 19 #[p, .string ⟨n.toArray⟩] w fun e w' => e = .returned (.int .i64 6) ∧ w' = w := by
  go_enter Try.func19, Try.ntmps19
  go_wp2_with (go_at_call 27; refine (find_dead h n).mono ?_; rintro e w' ⟨rfl, hw'⟩; subst w')
  go_ret
  exact ⟨rfl, rfl⟩
theorem dead_Rename {w : World} {p : Value} (h : Dead w p) (n m : List UInt8) : Calls Try.prog 22 #[p, .string ⟨n.toArray⟩, .string ⟨m.toArray⟩] w fun e w' => e = .returned (.int .i64 6) ∧ w' = w := by
  go_enter Try.func22, Try.ntmps22
  go_wp2_with (first | (go_at_call 28; refine (made_dead h).mono ?_; rintro e w' ⟨rfl, hw'⟩; subst w') | (go_at_call 27; refine (find_dead h n).mono ?_; rintro e w' ⟨rfl, hw'⟩; subst w'))
  go_ret
  exact ⟨rfl, rfl⟩
theorem dead_Remove {w : World} {p : Value} (h : Dead w p) (n : List UInt8) : Calls Try.prog 26 #[p, .string ⟨n.toArray⟩] w fun e w' => e = .returned (.int .i64 6) ∧ w' = w := by
  go_enter Try.func26, Try.ntmps26
  go_wp2_with (go_at_call 27; refine (find_dead h n).mono ?_; rintro e w' ⟨rfl, hw'⟩; subst w')
  go_ret
  exact ⟨rfl, rfl⟩
theorem dead_SyncDir {w : World} {p : Value} (h : Dead w p)  : Calls Try.prog 20 #[p] w fun e w' => e = .returned (.int .i64 6) ∧ w' = w := by
  go_enter Try.func20, Try.ntmps20
  go_wp2_with (go_at_call 28; refine (made_dead h).mono ?_; rintro e w' ⟨rfl, hw'⟩; subst w')
  go_ret
  exact ⟨rfl, rfl⟩
theorem dead_Crash {w : World} {p : Value} (h : Dead w p) (n : Int) (ka : Option Addr) (kl kc : Nat) : Calls Try.prog 16 #[p, .int .i64 n, .slice ka kl kc] w fun e w' => e = .returned (.int .i64 6) ∧ w' = w := by
  go_enter Try.func16, Try.ntmps16
  go_wp2_with (go_at_call 28; refine (made_dead h).mono ?_; rintro e w' ⟨rfl, hw'⟩; subst w')
  go_ret
  exact ⟨rfl, rfl⟩
theorem dead_Fail {w : World} {p : Value} (h : Dead w p) (n e : Int) : Calls Try.prog 18 #[p, .int .i64 n, .int .i64 e] w fun e w' => e = .returned (.int .i64 6) ∧ w' = w := by
  go_enter Try.func18, Try.ntmps18
  go_wp2_with (go_at_call 28; refine (made_dead h).mono ?_; rintro e w' ⟨rfl, hw'⟩; subst w')
  go_ret
  exact ⟨rfl, rfl⟩
theorem dead_Read {w : World} {p : Value} (h : Dead w p) (n : List UInt8) : Calls Try.prog 12 #[p, .string ⟨n.toArray⟩] w fun e w' => e = .returned (.tuple #[.slice none 0 0, .int .i64 6]) ∧ w' = w := by
  go_enter Try.func12, Try.ntmps12
  go_wp2_with (go_at_call 27; refine (find_dead h n).mono ?_; rintro e w' ⟨rfl, hw'⟩; subst w')
  go_ret2
  exact ⟨rfl, rfl⟩
theorem dead_List {w : World} {p : Value} (h : Dead w p)  : Calls Try.prog 13 #[p] w fun e w' => e = .returned (.slice none 0 0) ∧ w' = w := by
  go_enter Try.func13, Try.ntmps13
  go_wp2_with (go_at_call 28; refine (made_dead h).mono ?_; rintro e w' ⟨rfl, hw'⟩; subst w')
  go_ret
  exact ⟨rfl, rfl⟩
theorem dead_Used {w : World} {p : Value} (h : Dead w p)  : Calls Try.prog 14 #[p] w fun e w' => e = .returned (.int .i64 0) ∧ w' = w := by
  go_enter Try.func14, Try.ntmps14
  go_wp2_with (go_at_call 28; refine (made_dead h).mono ?_; rintro e w' ⟨rfl, hw'⟩; subst w')
  go_ret
  exact ⟨rfl, rfl⟩
theorem turn_c {W : World} {base : Nat} {n cap g : Nat} {l : List UInt8} (h : Own W base (.slice (some ⟨g, 0, none⟩) n cap) l) {j : Nat} (h0 : j < l.length) : ∃ x y : UInt8, W.cell? ⟨g, j, none⟩ = some (.int .u8 (x.toNat : Int)) ∧ W.frozen? ⟨g, j, none⟩ = false ∧ bits .xor .u8 (x.toNat : Int) 255 = (y.toNat : Int) := turn_b h h0
set_option maxRecDepth 100000 in
set_option maxHeartbeats 8000000 in
theorem call_dead {w : World} {p : Value} (h : Dead w p) (o : SfO) (ho : SfOk w o) (hbl : o.b.length ≤ 500) (h0 : 0 ≤ o.k) (h7 : o.k ≤ 7) : Calls Try.prog 11 #[p, .agg (o7 o).toArray] w fun e w' => e = .returned (.int .i64 6) ∧ Below w.heap.size w w' := by
  obtain ⟨k, nm, to, bv, b, n, kv, ks, e⟩ := o
  obtain ⟨ba, bcp, hbv, -⟩ := ho.rb.form
  obtain ⟨ka, kcp, hkv, -⟩ := ho.rk.form
  simp only at hbv hkv hbl h0 h7
  subst hbv hkv
  have HRB : Hid (Reads w (.slice ba b.length bcp) b) := ho.rb
  unfold o7
  simp only
  clear ho
  have hk : k = 0 ∨ k = 1 ∨ k = 2 ∨ k = 3 ∨ k = 4 ∨ k = 5 ∨ k = 6 ∨ k = 7 := by omega
  clear h0 h7
  rcases hk with rfl | rfl | rfl | rfl | rfl | rfl | rfl | rfl
  · have HB : Hid (Below w.heap.size w (w.alloc (.cells #[.int .i64 0, .string ⟨nm.toArray⟩, .string ⟨to.toArray⟩, .slice ba b.length bcp, .int .i64 n, .slice ka ks.length kcp, .int .i64 e] 26))) := (Below.refl _ _).alloc (Nat.le_refl _) _
    have HD : Hid (Dead (w.alloc (.cells #[.int .i64 0, .string ⟨nm.toArray⟩, .string ⟨to.toArray⟩, .slice ba b.length bcp, .int .i64 n, .slice ka ks.length kcp, .int .i64 e] 26)) p) := h.below HB.out
    clear h
    go_enter Try.func11, Try.ntmps11
    go_wp2_with (go_at_call 24; refine (dead_Create HD.out nm).mono ?_; rintro e' w' ⟨rfl, hw'⟩; subst w')
    go_ret
    exact ⟨rfl, HB.out⟩
  · have HB : Hid (Below w.heap.size w (w.alloc (.cells #[.int .i64 1, .string ⟨nm.toArray⟩, .string ⟨to.toArray⟩, .slice ba b.length bcp, .int .i64 n, .slice ka ks.length kcp, .int .i64 e] 26))) := (Below.refl _ _).alloc (Nat.le_refl _) _
    have HD : Hid (Dead (w.alloc (.cells #[.int .i64 1, .string ⟨nm.toArray⟩, .string ⟨to.toArray⟩, .slice ba b.length bcp, .int .i64 n, .slice ka ks.length kcp, .int .i64 e] 26)) p) := h.below HB.out
    clear h
    have HX : Hid ((w.alloc (.cells #[.int .i64 1, .string ⟨nm.toArray⟩, .string ⟨to.toArray⟩, .slice ba b.length bcp, .int .i64 n, .slice ka ks.length kcp, .int .i64 e] 26)).heap[w.heap.size]? = some (.cells #[.int .i64 1, .string ⟨nm.toArray⟩, .string ⟨to.toArray⟩, .slice ba b.length bcp, .int .i64 n, .slice ka ks.length kcp, .int .i64 e] 26)) := heap_alloc_new _ _
    have HRB1 : Hid (Reads (w.alloc (.cells #[.int .i64 1, .string ⟨nm.toArray⟩, .string ⟨to.toArray⟩, .slice ba b.length bcp, .int .i64 n, .slice ka ks.length kcp, .int .i64 e] 26)) (.slice ba b.length bcp) b) := HRB.out.below HB.out
    have HSZ : Hid (w.heap.size < (w.alloc (.cells #[.int .i64 1, .string ⟨nm.toArray⟩, .string ⟨to.toArray⟩, .slice ba b.length bcp, .int .i64 n, .slice ka ks.length kcp, .int .i64 e] 26)).heap.size) := by show _ < _; simp
    obtain ⟨w1, HW1⟩ := hid_ex (w.alloc (.cells #[.int .i64 1, .string ⟨nm.toArray⟩, .string ⟨to.toArray⟩, .slice ba b.length bcp, .int .i64 n, .slice ka ks.length kcp, .int .i64 e] 26))
    rw [← HW1.out] at HB HD HX HRB1 HSZ
    go_enter Try.func11, Try.ntmps11
    go_wp2_with fail
    rw [← HW1.out]
    refine (copy5_any HRB1.out (by omega)).mono ?_
    rintro e1 w2 ⟨ov, rfl, hown, hb2⟩
    obtain ⟨oa, oc, hov, -⟩ := hown.form
    subst hov
    have HO2 : Hid (Own w2 w1.heap.size (.slice oa b.length oc) b) := hown
    have HB2 : Hid (Below w.heap.size w w2) := HB.out.trans (hb2.mono HB.out.size)
    have HD2 : Hid (Dead w2 p) := HD.out.below hb2
    have y1 := cell_of ((hb2.block _ (Array.getElem?_eq_some_iff.1 HX.out).1).trans HX.out) 1 _ rfl
    clear hown hb2
    go_wp2_with (go_at_call 21; refine (dead_Append HD2.out nm oa b.length oc).mono ?_; rintro e' w' ⟨rfl, hw'⟩; subst w')
    go_loopw [7] (fun i wr => ∃ (j : Nat) (l' : List UInt8), i = .int .i64 (j : Int) ∧ j ≤ b.length ∧ Hid (l'.length = b.length) ∧ Hid (Own wr w1.heap.size (.slice oa b.length oc) l') ∧ Hid (Below w.heap.size w wr)) (fun i _ => b.length - (intOf i).toNat)
    case atStart => exact ⟨0, b, rfl, by omega, rfl, HO2, HB2⟩
    case round =>
      obtain ⟨j, l', rfl, hj, HL, HOO, HNN⟩ := hrel
      by_cases hlt : j < b.length
      · have hlt' : (j : Int) < (b.length : Int) := by omega
        have hjl : j < l'.length := by rw [HL.out]; exact hlt
        obtain ⟨og, oc', hov, hg1, -⟩ := HOO.out.some (by omega)
        simp at hov
        obtain ⟨rfl, -, -⟩ := hov
        obtain ⟨x, y, i1, i2, i3⟩ := turn_c HOO.out hjl
        have HST := (HOO.out.stored j y)
        have HO4 : Hid (Own (wr.setCell ⟨og, j, none⟩ (.int .u8 (y.toNat : Int))) w1.heap.size (.slice (some ⟨og, 0, none⟩) b.length oc) (l'.set j y)) := HST.1
        have HL4 : Hid ((l'.set j y).length = b.length) := (List.length_set ..).trans HL.out
        have HN4 : Hid (Below w.heap.size w (wr.setCell ⟨og, j, none⟩ (.int .u8 (y.toNat : Int)))) := HNN.out.setCell (by show w.heap.size ≤ og; have := HSZ.out; omega) _
        clear HST hg1
        go_wp2_with fail
        go_roundw
        case rel => exact ⟨j + 1, l'.set j y, by go_num, by omega, HL4, HO4, HN4⟩
        case measure => simp [intOf]; omega
      · have hlt' : ¬ (j : Int) < (b.length : Int) := by omega
        go_wp2_with fail
        go_ret
        exact ⟨rfl, HNN.out⟩
  · have HB : Hid (Below w.heap.size w (w.alloc (.cells #[.int .i64 2, .string ⟨nm.toArray⟩, .string ⟨to.toArray⟩, .slice ba b.length bcp, .int .i64 n, .slice ka ks.length kcp, .int .i64 e] 26))) := (Below.refl _ _).alloc (Nat.le_refl _) _
    have HD : Hid (Dead (w.alloc (.cells #[.int .i64 2, .string ⟨nm.toArray⟩, .string ⟨to.toArray⟩, .slice ba b.length bcp, .int .i64 n, .slice ka ks.length kcp, .int .i64 e] 26)) p) := h.below HB.out
    clear h
    go_enter Try.func11, Try.ntmps11
    go_wp2_with (go_at_call 19; refine (dead_Sync HD.out nm).mono ?_; rintro e' w' ⟨rfl, hw'⟩; subst w')
    go_ret
    exact ⟨rfl, HB.out⟩
  · have HB : Hid (Below w.heap.size w (w.alloc (.cells #[.int .i64 3, .string ⟨nm.toArray⟩, .string ⟨to.toArray⟩, .slice ba b.length bcp, .int .i64 n, .slice ka ks.length kcp, .int .i64 e] 26))) := (Below.refl _ _).alloc (Nat.le_refl _) _
    have HD : Hid (Dead (w.alloc (.cells #[.int .i64 3, .string ⟨nm.toArray⟩, .string ⟨to.toArray⟩, .slice ba b.length bcp, .int .i64 n, .slice ka ks.length kcp, .int .i64 e] 26)) p) := h.below HB.out
    clear h
    go_enter Try.func11, Try.ntmps11
    go_wp2_with (go_at_call 22; refine (dead_Rename HD.out nm to).mono ?_; rintro e' w' ⟨rfl, hw'⟩; subst w')
    go_ret
    exact ⟨rfl, HB.out⟩
  · have HB : Hid (Below w.heap.size w (w.alloc (.cells #[.int .i64 4, .string ⟨nm.toArray⟩, .string ⟨to.toArray⟩, .slice ba b.length bcp, .int .i64 n, .slice ka ks.length kcp, .int .i64 e] 26))) := (Below.refl _ _).alloc (Nat.le_refl _) _
    have HD : Hid (Dead (w.alloc (.cells #[.int .i64 4, .string ⟨nm.toArray⟩, .string ⟨to.toArray⟩, .slice ba b.length bcp, .int .i64 n, .slice ka ks.length kcp, .int .i64 e] 26)) p) := h.below HB.out
    clear h
    go_enter Try.func11, Try.ntmps11
    go_wp2_with (go_at_call 26; refine (dead_Remove HD.out nm).mono ?_; rintro e' w' ⟨rfl, hw'⟩; subst w')
    go_ret
    exact ⟨rfl, HB.out⟩
  · have HB : Hid (Below w.heap.size w (w.alloc (.cells #[.int .i64 5, .string ⟨nm.toArray⟩, .string ⟨to.toArray⟩, .slice ba b.length bcp, .int .i64 n, .slice ka ks.length kcp, .int .i64 e] 26))) := (Below.refl _ _).alloc (Nat.le_refl _) _
    have HD : Hid (Dead (w.alloc (.cells #[.int .i64 5, .string ⟨nm.toArray⟩, .string ⟨to.toArray⟩, .slice ba b.length bcp, .int .i64 n, .slice ka ks.length kcp, .int .i64 e] 26)) p) := h.below HB.out
    clear h
    go_enter Try.func11, Try.ntmps11
    go_wp2_with (go_at_call 20; refine (dead_SyncDir HD.out).mono ?_; rintro e' w' ⟨rfl, hw'⟩; subst w')
    go_ret
    exact ⟨rfl, HB.out⟩
  · have HB : Hid (Below w.heap.size w (w.alloc (.cells #[.int .i64 6, .string ⟨nm.toArray⟩, .string ⟨to.toArray⟩, .slice ba b.length bcp, .int .i64 n, .slice ka ks.length kcp, .int .i64 e] 26))) := (Below.refl _ _).alloc (Nat.le_refl _) _
    have HD : Hid (Dead (w.alloc (.cells #[.int .i64 6, .string ⟨nm.toArray⟩, .string ⟨to.toArray⟩, .slice ba b.length bcp, .int .i64 n, .slice ka ks.length kcp, .int .i64 e] 26)) p) := h.below HB.out
    clear h
    go_enter Try.func11, Try.ntmps11
    go_wp2_with (go_at_call 16; refine (dead_Crash HD.out n ka ks.length kcp).mono ?_; rintro e' w' ⟨rfl, hw'⟩; subst w')
    go_ret
    exact ⟨rfl, HB.out⟩
  · have HB : Hid (Below w.heap.size w (w.alloc (.cells #[.int .i64 7, .string ⟨nm.toArray⟩, .string ⟨to.toArray⟩, .slice ba b.length bcp, .int .i64 n, .slice ka ks.length kcp, .int .i64 e] 26))) := (Below.refl _ _).alloc (Nat.le_refl _) _
    have HD : Hid (Dead (w.alloc (.cells #[.int .i64 7, .string ⟨nm.toArray⟩, .string ⟨to.toArray⟩, .slice ba b.length bcp, .int .i64 n, .slice ka ks.length kcp, .int .i64 e] 26)) p) := h.below HB.out
    clear h
    go_enter Try.func11, Try.ntmps11
    go_wp2_with (go_at_call 18; refine (dead_Fail HD.out n e).mono ?_; rintro e' w' ⟨rfl, hw'⟩; subst w')
    go_ret
    exact ⟨rfl, HB.out⟩
set_option maxRecDepth 100000 in
set_option maxHeartbeats 8000000 in
theorem nobody_walk (o : SfO) (W : World) (hO : SfOk W o) : Calls Try.prog 3 #[.agg (o7 o).toArray] W fun e w' => e = .returned (.bool true) ∧ Below W.heap.size W w' := by
  obtain ⟨O, HOE⟩ := hid_ex o
  have HLG : Hid (∀ w, Below W.heap.size W w → Calls Try.prog 9 #[.agg (o7 o).toArray] w fun e w' => e = .returned (.bool (sfLong O)) ∧ Below w.heap.size w w') := fun w hb => by rw [HOE.out]; exact long_any (hO.below hb)
  have HCL : Hid (∀ (w : World) (p : Value), Dead w p → Below W.heap.size W w → sfLong O = false → 0 ≤ O.k → O.k ≤ 7 → Calls Try.prog 11 #[p, .agg (o7 o).toArray] w fun e w' => e = .returned (.int .i64 6) ∧ Below w.heap.size w w') := fun w p hd hb hl h0 h7 => by
    rw [HOE.out] at hl h0 h7
    exact call_dead hd o (hO.below hb) (long_false hl).1 h0 h7
  obtain ⟨k, nm, to, bv, b, n, kv, ks, e⟩ := o
  obtain ⟨ba, bcp, hbv, -⟩ := hO.rb.form
  obtain ⟨ka, kcp, hkv, -⟩ := hO.rk.form
  simp only at hbv hkv
  subst hbv hkv
  have HKK : Hid (O.k = k) := by show O.k = k; rw [HOE.out]
  unfold o7 at HLG HCL ⊢
  simp only at HLG HCL ⊢
  clear hO HOE
  have HB0 : Hid (Below W.heap.size W (W.alloc (.cells #[.int .i64 k, .string ⟨nm.toArray⟩, .string ⟨to.toArray⟩, .slice ba b.length bcp, .int .i64 n, .slice ka ks.length kcp, .int .i64 e] 26))) := (Below.refl _ _).alloc (Nat.le_refl _) _
  have HX0 : Hid ((W.alloc (.cells #[.int .i64 k, .string ⟨nm.toArray⟩, .string ⟨to.toArray⟩, .slice ba b.length bcp, .int .i64 n, .slice ka ks.length kcp, .int .i64 e] 26)).heap[W.heap.size]? = some (.cells #[.int .i64 k, .string ⟨nm.toArray⟩, .string ⟨to.toArray⟩, .slice ba b.length bcp, .int .i64 n, .slice ka ks.length kcp, .int .i64 e] 26)) := heap_alloc_new _ _
  go_enter Try.func3, Try.ntmps3
  go_wp2_with fail
  refine (HLG.out _ HB0.out).mono ?_
  rintro e' w1 ⟨rfl, hb1⟩
  have HB1 : Hid (Below W.heap.size W w1) := HB0.out.trans (hb1.mono HB0.out.size)
  have HX1 : Hid (w1.heap[W.heap.size]? = some (.cells #[.int .i64 k, .string ⟨nm.toArray⟩, .string ⟨to.toArray⟩, .slice ba b.length bcp, .int .i64 n, .slice ka ks.length kcp, .int .i64 e] 26)) := (hb1.block _ (Array.getElem?_eq_some_iff.1 HX0.out).1).trans HX0.out
  clear hb1 HX0 HB0
  cases hlg : sfLong O with
  | true =>
    clear hlg
    go_wp2_with fail
    refine (alive11_any w1).mono ?_
    rintro e' wz ⟨rfl, hbz⟩
    go_wp2_with fail
    go_ret
    exact ⟨rfl, HB1.out.trans (hbz.mono HB1.out.size)⟩
  | false =>
    have HLF : Hid (sfLong O = false) := hlg
    clear hlg
    have hba : Below w1.heap.size w1 (w1.alloc (.cells #[.int .i64 0, .map none, .map none, .slice none 0 0, .int .i64 0, .int .i64 0] 33)) := (Below.refl _ _).alloc (Nat.le_refl _) _
    have hza := heap_alloc_new w1 (.cells #[.int .i64 0, .map none, .map none, .slice none 0 0, .int .i64 0, .int .i64 0] 33)
    obtain ⟨w2, HW2⟩ := hid_ex (w1.alloc (.cells #[.int .i64 0, .map none, .map none, .slice none 0 0, .int .i64 0, .int .i64 0] 33))
    rw [← HW2.out] at hba hza
    have HB2 : Hid (Below W.heap.size W w2) := HB1.out.trans (hba.mono HB1.out.size)
    have HX2 : Hid (w2.heap[W.heap.size]? = some (.cells #[.int .i64 k, .string ⟨nm.toArray⟩, .string ⟨to.toArray⟩, .slice ba b.length bcp, .int .i64 n, .slice ka ks.length kcp, .int .i64 e] 26)) := (hba.block _ (Array.getElem?_eq_some_iff.1 HX1.out).1).trans HX1.out
    have HDG : Hid (∀ w, Below w2.heap.size w2 w → Dead w (.pointer (some ⟨w1.heap.size, 0, none⟩))) := fun w hb => Dead.below (.inr ⟨_, rfl, cell_of hza 0 _ rfl⟩) hb
    clear hba hza
    have HW2e : Hid (w1.alloc (.cells #[.int .i64 0, .map none, .map none, .slice none 0 0, .int .i64 0, .int .i64 0] 33) = w2) := HW2.out.symm
    clear HW2
    have x0 : (w1.alloc (.cells #[.int .i64 0, .map none, .map none, .slice none 0 0, .int .i64 0, .int .i64 0] 33)).cell? ⟨W.heap.size, 0, none⟩ = some (.int .i64 k) := by rw [HW2e.out]; exact cell_of HX2.out 0 _ rfl
    have x1 : (w1.alloc (.cells #[.int .i64 0, .map none, .map none, .slice none 0 0, .int .i64 0, .int .i64 0] 33)).cell? ⟨W.heap.size, 1, none⟩ = some (.string ⟨nm.toArray⟩) := by rw [HW2e.out]; exact cell_of HX2.out 1 _ rfl
    have x2 : (w1.alloc (.cells #[.int .i64 0, .map none, .map none, .slice none 0 0, .int .i64 0, .int .i64 0] 33)).cell? ⟨W.heap.size, 2, none⟩ = some (.string ⟨to.toArray⟩) := by rw [HW2e.out]; exact cell_of HX2.out 2 _ rfl
    have x3 : (w1.alloc (.cells #[.int .i64 0, .map none, .map none, .slice none 0 0, .int .i64 0, .int .i64 0] 33)).cell? ⟨W.heap.size, 3, none⟩ = some (.slice ba b.length bcp) := by rw [HW2e.out]; exact cell_of HX2.out 3 _ rfl
    have x4 : (w1.alloc (.cells #[.int .i64 0, .map none, .map none, .slice none 0 0, .int .i64 0, .int .i64 0] 33)).cell? ⟨W.heap.size, 4, none⟩ = some (.int .i64 n) := by rw [HW2e.out]; exact cell_of HX2.out 4 _ rfl
    have x5 : (w1.alloc (.cells #[.int .i64 0, .map none, .map none, .slice none 0 0, .int .i64 0, .int .i64 0] 33)).cell? ⟨W.heap.size, 5, none⟩ = some (.slice ka ks.length kcp) := by rw [HW2e.out]; exact cell_of HX2.out 5 _ rfl
    have x6 : (w1.alloc (.cells #[.int .i64 0, .map none, .map none, .slice none 0 0, .int .i64 0, .int .i64 0] 33)).cell? ⟨W.heap.size, 6, none⟩ = some (.int .i64 e) := by rw [HW2e.out]; exact cell_of HX2.out 6 _ rfl
    by_cases hk0 : 0 ≤ k
    · by_cases hk7 : k ≤ 7
      · go_wp2_with fail
        rw [HW2e.out]
        refine (HCL.out w2 (.pointer none) (.inl rfl) HB2.out HLF.out (by rw [HKK.out]; exact hk0) (by rw [HKK.out]; exact hk7)).mono ?_
        rintro e' w3 ⟨rfl, hb3⟩
        have HB3 : Hid (Below W.heap.size W w3) := HB2.out.trans (hb3.mono HB2.out.size)
        have HT3 : Hid (Below w2.heap.size w2 w3) := hb3
        have HX3 : Hid (w3.heap[W.heap.size]? = some (.cells #[.int .i64 k, .string ⟨nm.toArray⟩, .string ⟨to.toArray⟩, .slice ba b.length bcp, .int .i64 n, .slice ka ks.length kcp, .int .i64 e] 26)) := (hb3.block _ (Array.getElem?_eq_some_iff.1 HX2.out).1).trans HX2.out
        clear hb3 x0 x1 x2 x3 x4 x5 x6
        have x0 := cell_of HX3.out 0 _ rfl
        have x1 := cell_of HX3.out 1 _ rfl
        have x2 := cell_of HX3.out 2 _ rfl
        have x3 := cell_of HX3.out 3 _ rfl
        have x4 := cell_of HX3.out 4 _ rfl
        have x5 := cell_of HX3.out 5 _ rfl
        have x6 := cell_of HX3.out 6 _ rfl
        go_wp2_with fail
        refine (HCL.out w3 _ (HDG.out w3 HT3.out) HB3.out HLF.out (by rw [HKK.out]; exact hk0) (by rw [HKK.out]; exact hk7)).mono ?_
        rintro e' w4 ⟨rfl, hb4⟩
        have HBW : Hid (Below W.heap.size W w4) := HB3.out.trans (hb4.mono HB3.out.size)
        have HBT : Hid (Below w2.heap.size w2 w4) := HT3.out.trans (hb4.mono HT3.out.size)
        have HX4 : Hid (w4.heap[W.heap.size]? = some (.cells #[.int .i64 k, .string ⟨nm.toArray⟩, .string ⟨to.toArray⟩, .slice ba b.length bcp, .int .i64 n, .slice ka ks.length kcp, .int .i64 e] 26)) := (hb4.block _ (Array.getElem?_eq_some_iff.1 HX3.out).1).trans HX3.out
        clear hb4 x0 x1 x2 x3 x4 x5 x6
        have x1 := cell_of HX4.out 1 _ rfl
        go_wp2_with fail
        refine (dead_Read (w := w4) (p := .pointer none) (.inl rfl) nm).mono ?_
        rintro e' w' ⟨rfl, hw'⟩
        subst w'
        go_wp2_with fail
        refine (dead_Read (w := w4) (p := .pointer (some ⟨w1.heap.size, 0, none⟩)) (HDG.out w4 HBT.out) nm).mono ?_
        rintro e' w' ⟨rfl, hw'⟩
        subst w'
        go_wp2_with fail
        refine (alive11_any w4).mono ?_
        rintro e' wa ⟨rfl, hba⟩
        have HBa : Hid (Below W.heap.size W wa) := HBW.out.trans (hba.mono HBW.out.size)
        have HDa : Hid (Dead wa (.pointer (some ⟨w1.heap.size, 0, none⟩))) := (HDG.out _ HBT.out).below hba
        clear hba
        go_wp2_with fail
        refine (dead_List (w := wa) (p := .pointer none) (.inl rfl)).mono ?_
        rintro e' w' ⟨rfl, hw'⟩
        subst w'
        go_wp2_with fail
        refine (dead_List (w := wa) (p := .pointer (some ⟨w1.heap.size, 0, none⟩)) (HDa.out)).mono ?_
        rintro e' w' ⟨rfl, hw'⟩
        subst w'
        go_wp2_with fail
        refine (dead_Used (w := wa) (p := .pointer none) (.inl rfl)).mono ?_
        rintro e' w' ⟨rfl, hw'⟩
        subst w'
        go_wp2_with fail
        refine (dead_Used (w := wa) (p := .pointer (some ⟨w1.heap.size, 0, none⟩)) (HDa.out)).mono ?_
        rintro e' w' ⟨rfl, hw'⟩
        subst w'
        go_wp2_with fail
        go_ret
        exact ⟨rfl, HBa.out⟩
      · have HBW : Hid (Below W.heap.size W w2) := HB2
        have HBT : Hid (Below w2.heap.size w2 w2) := Below.refl _ _
        go_wp2_with fail
        rw [HW2e.out]
        clear x0 x1 x2 x3 x4 x5 x6
        have x1 := cell_of HX2.out 1 _ rfl
        refine (dead_Read (w := w2) (p := .pointer none) (.inl rfl) nm).mono ?_
        rintro e' w' ⟨rfl, hw'⟩
        subst w'
        go_wp2_with fail
        refine (dead_Read (w := w2) (p := .pointer (some ⟨w1.heap.size, 0, none⟩)) (HDG.out w2 HBT.out) nm).mono ?_
        rintro e' w' ⟨rfl, hw'⟩
        subst w'
        go_wp2_with fail
        refine (alive11_any w2).mono ?_
        rintro e' wa ⟨rfl, hba⟩
        have HBa : Hid (Below W.heap.size W wa) := HBW.out.trans (hba.mono HBW.out.size)
        have HDa : Hid (Dead wa (.pointer (some ⟨w1.heap.size, 0, none⟩))) := (HDG.out _ HBT.out).below hba
        clear hba
        go_wp2_with fail
        refine (dead_List (w := wa) (p := .pointer none) (.inl rfl)).mono ?_
        rintro e' w' ⟨rfl, hw'⟩
        subst w'
        go_wp2_with fail
        refine (dead_List (w := wa) (p := .pointer (some ⟨w1.heap.size, 0, none⟩)) (HDa.out)).mono ?_
        rintro e' w' ⟨rfl, hw'⟩
        subst w'
        go_wp2_with fail
        refine (dead_Used (w := wa) (p := .pointer none) (.inl rfl)).mono ?_
        rintro e' w' ⟨rfl, hw'⟩
        subst w'
        go_wp2_with fail
        refine (dead_Used (w := wa) (p := .pointer (some ⟨w1.heap.size, 0, none⟩)) (HDa.out)).mono ?_
        rintro e' w' ⟨rfl, hw'⟩
        subst w'
        go_wp2_with fail
        go_ret
        exact ⟨rfl, HBa.out⟩
    · have HBW : Hid (Below W.heap.size W w2) := HB2
      have HBT : Hid (Below w2.heap.size w2 w2) := Below.refl _ _
      go_wp2_with fail
      rw [HW2e.out]
      clear x0 x1 x2 x3 x4 x5 x6
      have x1 := cell_of HX2.out 1 _ rfl
      refine (dead_Read (w := w2) (p := .pointer none) (.inl rfl) nm).mono ?_
      rintro e' w' ⟨rfl, hw'⟩
      subst w'
      go_wp2_with fail
      refine (dead_Read (w := w2) (p := .pointer (some ⟨w1.heap.size, 0, none⟩)) (HDG.out w2 HBT.out) nm).mono ?_
      rintro e' w' ⟨rfl, hw'⟩
      subst w'
      go_wp2_with fail
      refine (alive11_any w2).mono ?_
      rintro e' wa ⟨rfl, hba⟩
      have HBa : Hid (Below W.heap.size W wa) := HBW.out.trans (hba.mono HBW.out.size)
      have HDa : Hid (Dead wa (.pointer (some ⟨w1.heap.size, 0, none⟩))) := (HDG.out _ HBT.out).below hba
      clear hba
      go_wp2_with fail
      refine (dead_List (w := wa) (p := .pointer none) (.inl rfl)).mono ?_
      rintro e' w' ⟨rfl, hw'⟩
      subst w'
      go_wp2_with fail
      refine (dead_List (w := wa) (p := .pointer (some ⟨w1.heap.size, 0, none⟩)) (HDa.out)).mono ?_
      rintro e' w' ⟨rfl, hw'⟩
      subst w'
      go_wp2_with fail
      refine (dead_Used (w := wa) (p := .pointer none) (.inl rfl)).mono ?_
      rintro e' w' ⟨rfl, hw'⟩
      subst w'
      go_wp2_with fail
      refine (dead_Used (w := wa) (p := .pointer (some ⟨w1.heap.size, 0, none⟩)) (HDa.out)).mono ?_
      rintro e' w' ⟨rfl, hw'⟩
      subst w'
      go_wp2_with fail
      go_ret
      exact ⟨rfl, HBa.out⟩
end Go.Proofs.Yteajfbgodfpioaa
