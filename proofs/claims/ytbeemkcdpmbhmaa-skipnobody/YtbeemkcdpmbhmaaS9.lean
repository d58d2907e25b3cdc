/- The contract of Put, where an entry is put. -/
import Derived.Test.YtbeemkcdpmbhmaaS8
import Derived.BigRegion
namespace Go.Proofs.Ytbeemkcdpmbhmaa
open Go.RowKit

theorem mpF_ok {fr : Bool} {h : Int} {n : Nat} {a : Ag} (hok : mpF fr h n a = 0) : 1 ≤ h ∧ h ≤ 8 ∧ fr = false ∧ 1 ≤ n ∧ n ≤ 256 ∧ a.c ≠ 0 ∧ rightB a = true := by
  unfold mpF at hok
  split at hok
  · simp at hok
  · split at hok
    · simp at hok
    · split at hok
      · simp at hok
      · split at hok
        · simp at hok
        · rename_i h1 h2 h3 h4
          refine ⟨by omega, by omega, by simpa using h2, by omega, by omega, fun e => h4 (.inl e), ?_⟩
          cases hr : rightB a
          · exact absurd (.inr hr) h4
          · rfl
theorem SLm.far {w : World} {base L0 : Nat} {N : List Nd} {F : Nat → Nat → Value} {n sz : Int} {fr : Bool} (h : SLm w base L0 N F n sz fr) {c j : Nat} {cs : Array Value} {T : TypeId} (hc : w.heap[c]? = some (.cells cs T)) (hT : T ≠ 5) (hne : ∀ p, p ≤ N.length → blk L0 N p ≠ c) (v : Value) : SLm (w.setCell ⟨c, j, none⟩ v) base L0 N F n sz fr := by
  refine ⟨?_, fun i hi => ?_, fun i hi => own7 c (h.ky i hi) hc hT _ _, h.b0, h.bs, h.ne⟩
  · rw [Below.heap_setCell _ _ _ _ (show L0 ≠ c from hne 0 (Nat.zero_le _))]; exact h.hd
  · rw [Below.heap_setCell _ _ _ _ (show N[i].b ≠ c from by rw [← blk_at (L0 := L0) hi]; exact hne (i + 1) hi)]; exact h.nd i hi
theorem kc_drew (w : World) : Kc w.heap.size w w.drew := Kc.of_below (Below.refl _ _).drew (Nat.le_refl _)
/-- The towers' places while an entry is put: levels below lv are done. -/
def Fi (N : List Nd) (i b lv : Nat) (p k : Nat) : Value := if k < lv ∧ p = bp N k i then .pointer (some ⟨b, 0, none⟩) else nxF N p k
def fi (N : List Nd) (i lv : Nat) (k : Nat) : Value := if k < lv then nxF N (bp N k i) k else .pointer none
theorem SLm.inserted {w : World} {base L0 : Nat} {N : List Nd} {n sz : Int} {fr : Bool} {i b hn : Nat} {kv : Value} {k : Ks} {a : Ag} (h : SLm w base L0 N (Fi N i b hn) n sz fr) (hi : i ≤ N.length)
    (hb : w.heap[b]? = some (.cells (ndc kv a (fi N i hn)) 55)) (hO : Own w base kv k) (hne : ∀ p, p ≤ N.length → blk L0 N p ≠ b) (hbb : base ≤ b) : SLm w base L0 (insN N i ⟨b, kv, k, a, hn⟩) (nxF (insN N i ⟨b, kv, k, a, hn⟩)) n sz fr := by
  have hcase : ∀ j (hj : j < (insN N i ⟨b, kv, k, a, hn⟩).length), (∃ hj' : j < i, (insN N i ⟨b, kv, k, a, hn⟩)[j] = N[j]) ∨ (j = i ∧ (insN N i ⟨b, kv, k, a, hn⟩)[j] = ⟨b, kv, k, a, hn⟩) ∨ (∃ j', ∃ hj' : j' < N.length, j = j' + 1 ∧ i ≤ j' ∧ (insN N i ⟨b, kv, k, a, hn⟩)[j] = N[j']) := by
    intro j hj
    have hl := insN_len N i ⟨b, kv, k, a, hn⟩ hi
    rcases Nat.lt_trichotomy j i with h1 | h1 | h1
    · exact .inl ⟨h1, insN_lt h1 hi⟩
    · subst h1; exact .inr (.inl ⟨rfl, insN_eq hi⟩)
    · obtain ⟨j', rfl⟩ : ∃ j', j = j' + 1 := ⟨j - 1, by omega⟩
      exact .inr (.inr ⟨j', by omega, rfl, by omega, insN_gt (by omega) (by omega)⟩)
  refine ⟨?_, fun j hj => ?_, fun j hj => ?_, h.b0, fun x hx => ?_, ?_⟩
  · rw [h.hd]; congr 2
    exact hdc_congr (fun k' hk' => by rw [nxF_ins_le hi hk' (Nat.zero_le _)]; rfl)
  · rcases hcase j hj with ⟨hj', e⟩ | ⟨rfl, e⟩ | ⟨j', hj', rfl, hij, e⟩
    · rw [e, h.nd j (by omega)]; congr 2
      exact ndc_congr (fun k' hk' => by rw [nxF_ins_le hi hk' (by omega)]; rfl)
    · rw [e, hb, ndc_congr (f := fi N j hn) (g := nxF (insN N j ⟨b, kv, k, a, hn⟩) (j + 1)) (fun k' hk' => by
        rw [nxF_ins_new hi]
        unfold fi
        by_cases e9 : k' < hn
        · rw [if_pos e9, if_pos e9, nxF_bp hi hk']
        · rw [if_neg e9, if_neg e9])]
    · rw [e, h.nd j' hj']; congr 2
      exact ndc_congr (fun k' hk' => by
        rw [nxF_ins_gt hi (by omega) (by omega)]
        unfold Fi
        rw [if_neg (fun hh => by have := bp_le N k' i; omega)])
  · rcases hcase j hj with ⟨hj', e⟩ | ⟨rfl, e⟩ | ⟨j', hj', rfl, hij, e⟩
    · rw [e]; exact h.ky j (by omega)
    · rw [e]; exact hO
    · rw [e]; exact h.ky j' hj'
  · obtain ⟨j, hj, rfl⟩ := List.mem_iff_getElem.1 hx
    rcases hcase j hj with ⟨hj', e⟩ | ⟨rfl, e⟩ | ⟨j', hj', rfl, hij, e⟩
    · rw [e]; exact h.bs _ (List.getElem_mem _)
    · rw [e]; exact hbb
    · rw [e]; exact h.bs _ (List.getElem_mem _)
  · have hnb : ∀ x ∈ N, x.b ≠ b := by
      intro x hx
      obtain ⟨j, hj, rfl⟩ := List.mem_iff_getElem.1 hx
      rw [← blk_at (L0 := L0) hj]; exact hne (j + 1) hj
    have hnd := h.ne
    rw [← List.take_append_drop i N, List.map_append] at hnd
    unfold insN
    rw [List.map_append, List.map_cons]
    rw [List.nodup_append] at hnd ⊢
    obtain ⟨q1, q2, q3⟩ := hnd
    refine ⟨q1, List.nodup_cons.2 ⟨?_, q2⟩, ?_⟩
    · intro hm
      obtain ⟨x, hx, e⟩ := List.mem_map.1 hm
      exact hnb x (List.mem_of_mem_drop hx) e
    · intro x hx y hy
      rcases List.mem_cons.1 hy with rfl | hy
      · obtain ⟨z, hz, e⟩ := List.mem_map.1 hx
        intro e2
        exact hnb z (List.mem_of_mem_take hz) (e.trans e2)
      · exact q3 x hx y hy
theorem SLm.setCount {w : World} {base L0 : Nat} {N : List Nd} {F : Nat → Nat → Value} {n sz : Int} {fr : Bool} (h : SLm w base L0 N F n sz fr) (n' : Int) : SLm (w.setCell ⟨L0, 15, none⟩ (.int .i64 n')) base L0 N F n' sz fr := by
  have hne : ∀ i (hi : i < N.length), N[i].b ≠ L0 := fun i hi e => by
    have := blk_inj h (p := i + 1) (q := 0) (by omega) (by omega) (by rw [blk_at hi]; exact e)
    omega
  refine ⟨?_, fun i hi => ?_, fun i hi => own7 L0 (h.ky i hi) h.hd (by decide) _ _, h.b0, h.bs, h.ne⟩
  · have := Go.heap_setCell_same w L0 15 _ _ (.int .i64 n') h.hd
    simpa [hdc] using this
  · rw [Below.heap_setCell _ _ _ _ (hne i hi)]; exact h.nd i hi
theorem SLm.setSize {w : World} {base L0 : Nat} {N : List Nd} {F : Nat → Nat → Value} {n sz : Int} {fr : Bool} (h : SLm w base L0 N F n sz fr) (sz' : Int) : SLm (w.setCell ⟨L0, 16, none⟩ (.int .i64 sz')) base L0 N F n sz' fr := by
  have hne : ∀ i (hi : i < N.length), N[i].b ≠ L0 := fun i hi e => by
    have := blk_inj h (p := i + 1) (q := 0) (by omega) (by omega) (by rw [blk_at hi]; exact e)
    omega
  refine ⟨?_, fun i hi => ?_, fun i hi => own7 L0 (h.ky i hi) h.hd (by decide) _ _, h.b0, h.bs, h.ne⟩
  · have := Go.heap_setCell_same w L0 16 _ _ (.int .i64 sz') h.hd
    simpa [hdc] using this
  · rw [Below.heap_setCell _ _ _ _ (hne i hi)]; exact h.nd i hi
theorem Fi_succ (N : List Nd) (i b m : Nat) : (fun q j => if q = bp N m i ∧ j = m then (.pointer (some ⟨b, 0, none⟩) : Value) else Fi N i b m q j) = Fi N i b (m + 1) := by
  funext q j
  unfold Fi
  by_cases e : j = m
  · subst e
    by_cases e2 : q = bp N j i
    · rw [if_pos ⟨e2, rfl⟩, if_pos ⟨by omega, e2⟩]
    · rw [if_neg (fun h => e2 h.1), if_neg (fun h => e2 h.2), if_neg (fun h => e2 h.2)]
  · rw [if_neg (fun h => e h.2)]
    by_cases e2 : j < m ∧ q = bp N j i
    · rw [if_pos e2, if_pos ⟨by omega, e2.2⟩]
    · rw [if_neg e2, if_neg (fun h => e2 ⟨by omega, h.2⟩)]
theorem fi_succ (N : List Nd) (i m : Nat) : (fun j => if j = m then nxF N (bp N m i) m else fi N i m j) = fi N i (m + 1) := by
  funext j
  unfold fi
  by_cases e : j = m
  · subst e; rw [if_pos rfl, if_pos (by omega)]
  · rw [if_neg e]
    by_cases e2 : j < m
    · rw [if_pos e2, if_pos (by omega)]
    · rw [if_neg e2, if_neg (by omega)]
set_option maxRecDepth 100000 in
set_option maxHeartbeats 1000000 in
theorem put_new (L0 : Nat) (N : List Nd) (sz : Int) (fr : Bool) (kv : Value) (k : Ks) (a : Ag) (h : Int) (w : World) (base : Nat) (hbase : base ≤ w.heap.size) (hS : SL w base L0 N sz fr) (hR : Reads w kv k) (hok : mpF fr h k.length a = 0) (i : Nat) (hil : i ≤ N.length) (hip : i = plK (N.map Nd.k) k) (pn : Option Addr) (hpn : nxF N i 0 = .pointer pn) (hhas : ∀ w', Below w.heap.size w w' → Calls Try.prog 22 #[.pointer pn, kv] w' fun e w'' => e = .returned (.bool false) ∧ w'' = w') (hfull : N.length ≠ 4096) (hsz : 0 ≤ sz ∧ sz ≤ 100000000) :
    Calls Try.prog 8 #[.pointer (some ⟨L0, 0, none⟩), env kv a, .int .i64 h] w fun e w' => e = .returned (.int .i64 0) ∧ (∃ b kv', SLm w' base L0 (insN N i ⟨b, kv', k, a, h.toNat⟩) (nxF (insN N i ⟨b, kv', k, a, h.toNat⟩)) ((N.length : Int) + 1) (sz + k.length + 41) fr) ∧ Below base w w' ∧ Kt w w' := by
  obtain ⟨mh1, mh2, _, mn1, mn2, _, _⟩ := mpF_ok hok
  obtain ⟨hn, rfl⟩ : ∃ hn : Nat, h = (hn : Int) := ⟨h.toNat, by omega⟩
  rw [Int.toNat_natCast]
  obtain ⟨cf, _, _, hL⟩ := hS.frozen
  have HS : Hid (SL w base L0 N sz fr) := hS
  have HR : Hid (Reads w kv k) := hR
  obtain ⟨ak, ck, rfl, _⟩ := hR.form
  have HB0 : Hid (Below w.heap.size w (w.alloc (.cells #[.slice ak k.length ck, .int .u64 a.c, .bool a.o, .int .i64 (hi a.s), .int .u64 (lo a.s), .int .i64 a.mn, .int .i64 a.mx] 36))) := (Below.refl _ _).alloc (Nat.le_refl _) _
  have HM : Hid _ := mayPut_any L0 fr _ k a (hn : Int) _ (by simp; omega) ((HB0.out.cell (p := ⟨L0, 17, none⟩) hL).trans cf) (HR.out.below HB0.out)
  unfold env at HM ⊢
  rw [hok] at HM
  obtain ⟨w0, HW0⟩ := hid_ex (w.alloc (.cells #[.slice ak k.length ck, .int .u64 a.c, .bool a.o, .int .i64 (hi a.s), .int .u64 (lo a.s), .int .i64 a.mn, .int .i64 a.mx] 36))
  have HX0 : Hid (w0.heap[w.heap.size]? = some (.cells #[.slice ak k.length ck, .int .u64 a.c, .bool a.o, .int .i64 (hi a.s), .int .u64 (lo a.s), .int .i64 a.mn, .int .i64 a.mx] 36)) := by rw [HW0.out]; exact World.alloc_heap_new _ _
  have hs0 : w0.heap.size = w.heap.size + 1 := by rw [HW0.out]; simp
  rw [← HW0.out] at HB0 HM
  have HIP : Hid (i = plK (N.map Nd.k) k) := hip
  have HPN : Hid (nxF N i 0 = .pointer pn) := hpn
  have HHAS : Hid _ := hhas
  obtain ⟨_, cc, cs, _⟩ := hS.frozen
  have HCC : Hid _ := cc
  have HCS : Hid _ := cs
  clear hS hR cf hip hpn hhas cc cs
  go_enter Try.func8, Try.ntmps8
  go_wp2_with fail
  rw [← HW0.out]
  refine Calls.mono HM.out ?_
  rintro e w1 ⟨rfl, hb1⟩
  have HB1 : Hid (Below w.heap.size w w1) := HB0.out.trans (hb1.mono HB0.out.size)
  have HX1 : Hid (w1.heap[w.heap.size]? = some (.cells #[.slice ak k.length ck, .int .u64 a.c, .bool a.o, .int .i64 (hi a.s), .int .u64 (lo a.s), .int .i64 a.mn, .int .i64 a.mx] 36)) := (hb1.block _ (by omega)).trans HX0.out
  have hs1 : w.heap.size + 1 ≤ w1.heap.size := by have := hb1.size; omega
  obtain ⟨cx0, _⟩ := cell_row HX1.out 0 (by simp)
  simp only [List.getElem_toArray, List.getElem_cons_zero] at cx0
  clear hb1 HM HX0 HB0
  go_wp2_with fail
  refine (before_any L0 N sz fr _ k w1 base (HS.out.below HB1.out) (HR.out.below HB1.out)).mono ?_
  rintro e w2 ⟨rfl, hb2⟩
  rw [← HIP.out]
  have HB2 : Hid (Below w.heap.size w w2) := HB1.out.trans (hb2.mono HB1.out.size)
  have HX2 : Hid (w2.heap[w.heap.size]? = some (.cells #[.slice ak k.length ck, .int .u64 a.c, .bool a.o, .int .i64 (hi a.s), .int .u64 (lo a.s), .int .i64 a.mn, .int .i64 a.mx] 36)) := (hb2.block _ (by omega)).trans HX1.out
  have hs2 : w.heap.size + 1 ≤ w2.heap.size := by have := hb2.size; omega
  obtain ⟨g, Hg⟩ := hid_ex (fun j => blk L0 N (bp N j i))
  have HEG : Hid ((fun j => (.pointer (some ⟨blk L0 N (bp N j i), 0, none⟩) : Value)) = fun j => .pointer (some ⟨g j, 0, none⟩)) := by rw [Hg.out]; rfl
  have HG0 : Hid (g 0 = blk L0 N i) := by rw [Hg.out]; unfold Hid; dsimp only; rw [bp_zero HS.out.2.ht (by omega)]
  rw [HEG.out]
  unfold ar8
  dsimp only
  obtain ⟨cN, _, hbl⟩ := HS.out.1.blk_hd (p := i) (by omega) (k := 0) (by decide)
  have cN2 := (HB2.out.cell (p := ⟨blk L0 N i, 7 + 0, none⟩) hbl).trans cN
  rw [← HG0.out] at cN2 hbl
  have hbl2 : g 0 < w2.heap.size := by have := HB2.out.size; omega
  obtain ⟨cx0, _⟩ := cell_row HX2.out 0 (by simp)
  simp only [List.getElem_toArray, List.getElem_cons_zero] at cx0
  rw [HPN.out] at cN2
  have hsx : w.heap.size < w2.heap.size := by omega
  obtain ⟨w3, HW3⟩ := hid_ex (w2.alloc (.cells #[.pointer (some ⟨g 0, 0, none⟩), .pointer (some ⟨g 1, 0, none⟩), .pointer (some ⟨g 2, 0, none⟩), .pointer (some ⟨g 3, 0, none⟩), .pointer (some ⟨g 4, 0, none⟩), .pointer (some ⟨g 5, 0, none⟩), .pointer (some ⟨g 6, 0, none⟩), .pointer (some ⟨g 7, 0, none⟩)] 52))
  have hal3 : Below w2.heap.size w2 w3 := by rw [HW3.out]; exact (Below.refl _ _).alloc (Nat.le_refl _) _
  have HB3 : Hid (Below w.heap.size w w3) := HB2.out.trans (hal3.mono HB2.out.size)
  have HX3 : Hid (w3.heap[w.heap.size]? = some (.cells #[.slice ak k.length ck, .int .u64 a.c, .bool a.o, .int .i64 (hi a.s), .int .u64 (lo a.s), .int .i64 a.mn, .int .i64 a.mx] 36)) := (hal3.block _ hsx).trans HX2.out
  have HAR3 : Hid (ArB w3 w2.heap.size fun j => .pointer (some ⟨g j, 0, none⟩)) := by rw [HW3.out]; exact World.alloc_heap_new _ _
  have hs3 : w2.heap.size < w3.heap.size := by rw [HW3.out]; simp
  clear hb2 cN HX1 hal3
  go_wp2_with fail
  rw [← HW3.out]
  clear cN2 cx0 HX2 HB2 HW3
  refine (HHAS.out _ HB3.out).mono ?_
  rintro e w4 ⟨rfl, hw4⟩
  subst w4
  have cc3 := (HB3.out.cell (p := ⟨L0, 15, none⟩) hL).trans HCC.out
  have hnf : ¬ (N.length : Int) = 4096 := by omega
  obtain ⟨b0, _⟩ := cell_row HX3.out 0 (by simp)
  obtain ⟨b1, _⟩ := cell_row HX3.out 1 (by simp)
  obtain ⟨b2, _⟩ := cell_row HX3.out 2 (by simp)
  obtain ⟨b3, _⟩ := cell_row HX3.out 3 (by simp)
  obtain ⟨b4, _⟩ := cell_row HX3.out 4 (by simp)
  obtain ⟨b5, _⟩ := cell_row HX3.out 5 (by simp)
  obtain ⟨b6, _⟩ := cell_row HX3.out 6 (by simp)
  simp only [List.getElem_toArray, List.getElem_cons_succ, List.getElem_cons_zero] at b0 b1 b2 b3 b4 b5 b6
  go_wp2_with fail
  refine (copied_any _ k a _ (HR.out.below HB3.out) (by omega) (by omega)).mono ?_
  rintro e w5 ⟨kv5, rfl, ho5, hb5⟩
  unfold env
  have HO5 : Hid (Own w5 base kv5 k) := ho5.mono (Nat.le_trans hbase HB3.out.size)
  obtain ⟨a5, c5, rfl, _⟩ := ho5.form
  have HB5 : Hid (Below w.heap.size w w5) := HB3.out.trans (hb5.mono HB3.out.size)
  have HAR5 : Hid (ArB w5 w2.heap.size fun j => .pointer (some ⟨g j, 0, none⟩)) := (hb5.block _ hs3).trans HAR3.out
  have hs5 : w2.heap.size < w5.heap.size := by have := hb5.size; omega
  have HX5 : Hid (w5.heap[w.heap.size]? = some (.cells #[.slice ak k.length ck, .int .u64 a.c, .bool a.o, .int .i64 (hi a.s), .int .u64 (lo a.s), .int .i64 a.mn, .int .i64 a.mx] 36)) := (hb5.block _ (by omega)).trans HX3.out
  obtain ⟨b, Hb⟩ := hid_ex w5.heap.size
  obtain ⟨w6, HW6⟩ := hid_ex (w5.alloc (.cells #[.slice a5 k.length c5, .int .u64 a.c, .bool a.o, .int .i64 (hi a.s), .int .u64 (lo a.s), .int .i64 a.mn, .int .i64 a.mx, .pointer none, .pointer none, .pointer none, .pointer none, .pointer none, .pointer none, .pointer none, .pointer none] 55))
  have hal6 : Below w5.heap.size w5 w6 := by rw [HW6.out]; exact (Below.refl _ _).alloc (Nat.le_refl _) _
  have HB6 : Hid (Below w.heap.size w w6) := HB5.out.trans (hal6.mono HB5.out.size)
  have HO6 : Hid (Own w6 base (.slice a5 k.length c5) k) := by rw [HW6.out]; exact HO5.out.alloc _
  have HAR6 : Hid (ArB w6 w2.heap.size fun j => .pointer (some ⟨g j, 0, none⟩)) := (hal6.block _ hs5).trans HAR5.out
  have HX6 : Hid (w6.heap[w.heap.size]? = some (.cells #[.slice ak k.length ck, .int .u64 a.c, .bool a.o, .int .i64 (hi a.s), .int .u64 (lo a.s), .int .i64 a.mn, .int .i64 a.mx] 36)) := (hal6.block _ (by omega)).trans HX5.out
  have HN6 : Hid (w6.heap[b]? = some (.cells (ndc (.slice a5 k.length c5) a (fi N i 0)) 55)) := by
    rw [HW6.out, Hb.out]
    refine (World.alloc_heap_new _ _).trans ?_
    rw [ndc_congr (g := fun _ => .pointer none) (fun j _ => by simp [fi])]
    rfl
  have HS6 : Hid (SLm w6 base L0 N (Fi N i b 0) N.length sz fr) := by
    have := (HS.out.below HB6.out).1
    have e : Fi N i b 0 = nxF N := by funext p j; simp [Fi]
    rw [e]; exact this
  have hbb : w2.heap.size < b := by rw [Hb.out]; exact hs5
  have hbL : L0 < b := by rw [Hb.out]; have := HB5.out.size; omega
  have hbbase : base ≤ b := by rw [Hb.out]; exact Nat.le_trans hbase HB5.out.size
  have HBL : Hid (∀ p, p ≤ N.length → blk L0 N p ≠ b ∧ blk L0 N p ≠ w2.heap.size ∧ base ≤ blk L0 N p ∧ blk L0 N p < w.heap.size) := by
    intro p hp
    have h1 := (HS.out.1.blk_hd hp (k := 0) (by decide)).2.2
    refine ⟨by rw [Hb.out]; have := HB5.out.size; omega, by omega, ?_, h1⟩
    cases p with
    | zero => exact HS.out.1.b0
    | succ p => rw [blk_at (by omega)]; exact HS.out.1.bs _ (List.getElem_mem _)
  have HGJ : Hid (∀ j, g j = blk L0 N (bp N j i)) := fun j => by rw [Hg.out]
  clear ho5 hb5 hal6 HO5 HAR5 HX3 HAR3 HX5 HEG HG0
  go_wp2_with fail
  rw [← HW6.out, ← Hb.out]
  clear cc3 b0 b1 b2 b3 b4 b5 b6 HW6
  go_loopw [55] (fun c wr => ∃ m : Nat, m ≤ hn ∧ c = .int .i64 (m : Int) ∧ Hid (SLm wr base L0 N (Fi N i b m) N.length sz fr) ∧ Hid (wr.heap[b]? = some (.cells (ndc (.slice a5 k.length c5) a (fi N i m)) 55)) ∧ Hid (Own wr base (.slice a5 k.length c5) k) ∧ Hid (ArB wr w2.heap.size fun j => .pointer (some ⟨g j, 0, none⟩)) ∧ Hid (wr.heap[w.heap.size]? = some (.cells #[.slice ak k.length ck, .int .u64 a.c, .bool a.o, .int .i64 (hi a.s), .int .u64 (lo a.s), .int .i64 a.mn, .int .i64 a.mx] 36)) ∧ Hid (Below base w wr) ∧ Hid (Kt w wr)) (fun c _ => hn - (intOf c).toNat)
  case atStart => exact ⟨0, by omega, rfl, HS6, HN6, HO6, HAR6, HX6, HB6.out.mono hbase, Kt.of_below HB6.out⟩
  case round =>
    clear HS6 HN6 HO6 HAR6 HX6 HB6
    obtain ⟨m, hm, rfl, HSm, HN, HO, HAR, HX, HB, HKt⟩ := hrel
    by_cases hlt : m < hn
    · obtain ⟨c1, _⟩ := HAR.out.cell (k := m) (by omega)
      obtain ⟨gm, Hgm⟩ := hid_ex (g m)
      rw [← Hgm.out] at c1
      have HGM : Hid (gm = blk L0 N (bp N m i)) := by rw [Hgm.out]; exact HGJ.out m
      have hbpN : bp N m i ≤ N.length := Nat.le_trans (bp_le N m i) hil
      obtain ⟨hgb, hg2, hgbase, hgw⟩ := HBL.out _ hbpN
      obtain ⟨c2, f2, hgl⟩ := HSm.out.blk_hd (p := bp N m i) hbpN (k := m) (by omega)
      have e2 : Fi N i b m (bp N m i) m = nxF N (bp N m i) m := by unfold Fi; rw [if_neg (by omega)]
      obtain ⟨q, hq⟩ : ∃ q, nxF N (bp N m i) m = .pointer q := by unfold nxF nxt; split <;> exact ⟨_, rfl⟩
      rw [e2, hq] at c2
      rw [← HGM.out] at c2 f2 hgl hgb hg2 hgbase hgw
      have c3 : wr.cell? ⟨b, 7 + m, none⟩ = some (.pointer none) ∧ wr.frozen? ⟨b, 7 + m, none⟩ = false := by
        have hm8 : m < 8 := by omega
        have hff : fi N i m m = .pointer none := by unfold fi; rw [if_neg (by omega)]
        refine ⟨?_, by simp [World.frozen?, show wr.heap[b]? = _ from HN.out]⟩
        match m, hm8, hff with
        | 0, _, hff | 1, _, hff | 2, _, hff | 3, _, hff | 4, _, hff | 5, _, hff | 6, _, hff | 7, _, hff => simp [World.cell?, show wr.heap[b]? = _ from HN.out, ndc, hff]
      obtain ⟨c3, f3⟩ := c3
      have HQ : Hid (nxF N (bp N m i) m = .pointer q) := hq
      clear e2 hq
      have q1 : ((m : Int)).toNat = m := by omega
      have HN7 : Hid ((wr.setCell ⟨b, 7 + m, none⟩ (.pointer q)).drew.heap[b]? = some (.cells (ndc (.slice a5 k.length c5) a (fi N i (m + 1))) 55)) := by
        have := Go.heap_setCell_same wr b (7 + m) _ _ (.pointer q) HN.out
        rw [ndc_set _ _ _ m (by omega), ← HQ.out, fi_succ] at this
        rw [← HQ.out]; exact this
      have HS7 : Hid (SLm (wr.setCell ⟨b, 7 + m, none⟩ (.pointer q)).drew base L0 N (Fi N i b m) N.length sz fr) := (HSm.out.far HN.out (by decide) (fun p hp => (HBL.out p hp).1) _).kc (kc_drew _)
      have HO7 : Hid (Own (wr.setCell ⟨b, 7 + m, none⟩ (.pointer q)).drew base (.slice a5 k.length c5) k) := (own7 b HO.out HN.out (by decide) (7 + m) (.pointer q)).below (Below.refl _ _).drew
      have HAR7 : Hid (ArB (wr.setCell ⟨b, 7 + m, none⟩ (.pointer q)).drew w2.heap.size fun j => .pointer (some ⟨g j, 0, none⟩)) := (Below.heap_setCell wr ⟨b, 7 + m, none⟩ _ w2.heap.size (show w2.heap.size ≠ b by omega)).trans HAR.out
      have HX7 : Hid ((wr.setCell ⟨b, 7 + m, none⟩ (.pointer q)).drew.heap[w.heap.size]? = some (.cells #[.slice ak k.length ck, .int .u64 a.c, .bool a.o, .int .i64 (hi a.s), .int .u64 (lo a.s), .int .i64 a.mn, .int .i64 a.mx] 36)) := (Below.heap_setCell wr ⟨b, 7 + m, none⟩ _ w.heap.size (show w.heap.size ≠ b by omega)).trans HX.out
      have HB7 : Hid (Below base w (wr.setCell ⟨b, 7 + m, none⟩ (.pointer q)).drew) := (HB.out.setCell hbbase _).drew
      have HKt7 : Hid (Kt w (wr.setCell ⟨b, 7 + m, none⟩ (.pointer q)).drew) := fun c cs T fr h1 h2 hc => (HKt.out.set HN.out (.inl rfl) (7 + m) (.pointer q)) c cs T fr h1 h2 hc
      go_wp2_with fail
      go_region
      obtain ⟨w7, HW7⟩ := hid_ex (wr.setCell ⟨b, 7 + m, none⟩ (.pointer q)).drew
      rw [← HW7.out] at HN7 HS7 HO7 HAR7 HX7 HB7 HKt7
      rw [← HW7.out]
      clear HN HSm HO HAR HX HB HKt c1 c2 c3 f2 f3 hgl HW7
      obtain ⟨c1, _⟩ := HAR7.out.cell (k := m) (by omega)
      rw [← Hgm.out] at c1
      obtain ⟨c2, f2, hgl⟩ := HS7.out.blk_hd (p := bp N m i) hbpN (k := m) (by omega)
      rw [← HGM.out] at c2 f2 hgl
      have HS8 : Hid (SLm (w7.setCell ⟨gm, 7 + m, none⟩ (.pointer (some ⟨b, 0, none⟩))) base L0 N (Fi N i b (m + 1)) N.length sz fr) := by
        have := HS7.out.setNext hbpN (show m < 8 by omega) (.pointer (some ⟨b, 0, none⟩))
        rw [← HGM.out, Fi_succ] at this
        exact this
      have hgc : ∃ cs T, w7.heap[gm]? = some (.cells cs T) ∧ T ≠ 5 ∧ (T = 55 ∨ T = 57) := by
        rw [HGM.out]
        cases hbp : bp N m i with
        | zero => exact ⟨_, _, HS7.out.hd, by decide, .inr rfl⟩
        | succ p => rw [blk_at (by omega)]; exact ⟨_, _, HS7.out.nd p (by omega), by decide, .inl rfl⟩
      obtain ⟨gcs, gT, hgc, hgT, hgK⟩ := hgc
      have HKt8 : Hid (Kt w (w7.setCell ⟨gm, 7 + m, none⟩ (.pointer (some ⟨b, 0, none⟩)))) := HKt7.out.set hgc hgK _ _
      have HN8 : Hid ((w7.setCell ⟨gm, 7 + m, none⟩ (.pointer (some ⟨b, 0, none⟩))).heap[b]? = some (.cells (ndc (.slice a5 k.length c5) a (fi N i (m + 1))) 55)) := (Below.heap_setCell w7 ⟨gm, 7 + m, none⟩ _ b (show b ≠ gm by omega)).trans HN7.out
      have HO8 : Hid (Own (w7.setCell ⟨gm, 7 + m, none⟩ (.pointer (some ⟨b, 0, none⟩))) base (.slice a5 k.length c5) k) := own7 gm HO7.out hgc hgT _ _
      have HAR8 : Hid (ArB (w7.setCell ⟨gm, 7 + m, none⟩ (.pointer (some ⟨b, 0, none⟩))) w2.heap.size fun j => .pointer (some ⟨g j, 0, none⟩)) := (Below.heap_setCell w7 ⟨gm, 7 + m, none⟩ _ w2.heap.size (show w2.heap.size ≠ gm by omega)).trans HAR7.out
      have HX8 : Hid ((w7.setCell ⟨gm, 7 + m, none⟩ (.pointer (some ⟨b, 0, none⟩))).heap[w.heap.size]? = some (.cells #[.slice ak k.length ck, .int .u64 a.c, .bool a.o, .int .i64 (hi a.s), .int .u64 (lo a.s), .int .i64 a.mn, .int .i64 a.mx] 36)) := (Below.heap_setCell w7 ⟨gm, 7 + m, none⟩ _ w.heap.size (show w.heap.size ≠ gm by omega)).trans HX7.out
      have HB8 : Hid (Below base w (w7.setCell ⟨gm, 7 + m, none⟩ (.pointer (some ⟨b, 0, none⟩)))) := HB7.out.setCell hgbase _
      clear HS7 HN7 HO7 HAR7 HX7 HB7 HKt7 hgc hgK hgT
      go_wp2_with fail
      exact ⟨⟨m + 1, by omega, by go_num, HS8, HN8, HO8, HAR8, HX8, HB8, HKt8⟩, by simp [intOf]; omega⟩
    · have hh := HSm.out.hd
      obtain ⟨d15, f15⟩ := cell_row hh 15 (by simp [hdc])
      obtain ⟨d16, f16⟩ := cell_row hh 16 (by simp [hdc])
      simp only [hdc, List.getElem_toArray, List.getElem_cons_succ, List.getElem_cons_zero] at d15 d16
      obtain ⟨b0, _⟩ := cell_row HX.out 0 (by simp)
      simp only [List.getElem_toArray, List.getElem_cons_zero] at b0
      clear hh
      have hLx : L0 ≠ w.heap.size := by omega
      have hle := HS.out.2.le
      have hme : m = hn := by omega
      have HF9 : Hid (SLm ((wr.setCell ⟨L0, 15, none⟩ (.int .i64 ((N.length : Int) + 1))).setCell ⟨L0, 16, none⟩ (.int .i64 (sz + ((k.length : Int) + 41)))) base L0 (insN N i ⟨b, .slice a5 k.length c5, k, a, hn⟩) (nxF (insN N i ⟨b, .slice a5 k.length c5, k, a, hn⟩)) ((N.length : Int) + 1) (sz + ((k.length : Int) + 41)) fr) := by
        have h1 := HSm.out
        have h2 := HN.out
        rw [hme] at h1 h2
        exact ((h1.inserted hil h2 HO.out (fun p hp => (HBL.out p hp).1) hbbase).setCount _).setSize _
      have HB9 : Hid (Below base w ((wr.setCell ⟨L0, 15, none⟩ (.int .i64 ((N.length : Int) + 1))).setCell ⟨L0, 16, none⟩ (.int .i64 (sz + ((k.length : Int) + 41))))) := (HB.out.setCell HS.out.1.b0 _).setCell HS.out.1.b0 _
      have HK9 : Hid (Kt w ((wr.setCell ⟨L0, 15, none⟩ (.int .i64 ((N.length : Int) + 1))).setCell ⟨L0, 16, none⟩ (.int .i64 (sz + ((k.length : Int) + 41))))) := (HKt.out.set HSm.out.hd (.inr rfl) _ _).set (HSm.out.setCount _).hd (.inr rfl) _ _
      clear hme
      go_wp2_with fail
      go_region
      obtain ⟨w9, HW9⟩ := hid_ex ((wr.setCell ⟨L0, 15, none⟩ (.int .i64 ((N.length : Int) + 1))).setCell ⟨L0, 16, none⟩ (.int .i64 (sz + ((k.length : Int) + 41))))
      rw [← HW9.out] at HF9 HB9 HK9
      rw [← HW9.out]
      clear HW9 d15 d16 b0 f15 f16
      go_wp2_with fail
      go_ret
      refine ⟨rfl, ⟨b, .slice a5 k.length c5, ?_⟩, HB9.out.drew, fun c cs T fr h1 h2 hc => HK9.out c cs T fr h1 h2 hc⟩
      have := HF9.out.kc (kc_drew _)
      rw [← Int.add_assoc] at this
      exact this
end Go.Proofs.Ytbeemkcdpmbhmaa
