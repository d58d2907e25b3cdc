/- S1 ML2 ML3 MS3 MS4, joined. -/
import Derived.Test.YtilbffgpniomcaaGreatDoorQQ1
import Derived.Test.YtilbffgpniomcaaGreatDoorQQ5
import Derived.Test.YtilbffgpniomcaaGreatDoorQQ12
import Derived.Test.YtilbffgpniomcaaGreatDoorQQ14
import Derived.Test.YtilbffgpniomcaaGreatDoorQQ20
import Derived.Test.YtilbffgpniomcaaGreatDoorQQ22
import Derived.Lib.Bytealg
import Derived.Laws.Externs
import Derived.Shelf.Abstract
/- The contracts of bytes.Compare and bytes.Equal; the order of bytes. -/
namespace Go.Proofs.YtilbffgpniomcaaGreatDoor
open Go.RowKit

theorem run_loadBytes (w : World) : ∀ (l : List UInt8) (b off : Nat) (acc : ByteArray), (∀ j (h : j < l.length), w.cell? ⟨b, off + j, none⟩ = some (bc l[j])) →
    (Extern.Bytes.loadBytes ⟨b, off, none⟩ l.length acc).run Tryz.prog w = .ok ⟨acc.data ++ l.toArray⟩ w := by
  intro l
  induction l with
  | nil => intro b off acc _; simp [Extern.Bytes.loadBytes, Sem.run_pure]
  | cons x l ih =>
    intro b off acc h
    have h0 := h 0 (by simp)
    simp only [Nat.add_zero, List.getElem_cons_zero] at h0
    have e1 : (⟨b, off, none⟩ : Addr).add 1 = ⟨b, off + 1, none⟩ := by simp [Addr.add]
    have := ih b (off + 1) (acc.push x) (fun j hj => by
      have := h (j + 1) (by simpa using hj)
      simpa [Nat.add_assoc, Nat.add_comm 1 j] using this)
    have e2 : ((x.toNat : Int).toNat).toUInt8 = x := by simp
    unfold bc at h0
    simp only [List.length_cons, Extern.Bytes.loadBytes, Sem.run_bind, run_load, h0, Result.andThen, e1, e2, this]
    congr 1
    simp [ByteArray.push]
theorem run_bytesOf {w : World} {v : Value} {l : List UInt8} (h : Reads w v l) : (Extern.Bytes.bytesOf v).run Tryz.prog w = .ok ⟨l.toArray⟩ w := by
  rcases h with ⟨rfl, a, cap, rfl, _⟩ | ⟨b, off, cap, rfl, h2, h3, h4, h5, h6⟩
  · cases a with
    | none => simp [Extern.Bytes.bytesOf, Sem.run_pure]; rfl
    | some a => simp [Extern.Bytes.bytesOf, Extern.Bytes.loadBytes, Sem.run_pure]; rfl
  · have := run_loadBytes w l b off ByteArray.empty h6
    simp only [Extern.Bytes.bytesOf]
    rw [this]; simp
theorem run_cmp {w : World} {va vb : Value} {a b : List UInt8} (ha : Reads w va a) (hb : Reads w vb b) : (Extern.BytealgCompare.compare #[va, vb]).run Tryz.prog w = .ok (.int .i64 (Lib.compareBytes a b)) w := by
  change Sem.run Tryz.prog (do pure (goInt (Extern.BytealgCompare.cmp (← Extern.Bytes.bytesOf va) (← Extern.Bytes.bytesOf vb)))) w = _
  simp only [Sem.run_bind, run_bytesOf ha, run_bytesOf hb, Sem.run_pure, Result.andThen]
  rw [Lib.cmp_eq]
  rfl
theorem equal_any (va vb : Value) (a b : List UInt8) (w : World) (ha : Reads w va a) (hb : Reads w vb b) :
    Calls Tryz.prog 72 #[va, vb] w fun e w' => e = .returned (.bool (decide (a = b))) ∧ w' = w := by
  have h1 := reads_text ha
  have h2 := reads_text hb
  obtain ⟨a1, c1, rfl, _⟩ := ha.form
  obtain ⟨a2, c2, rfl, _⟩ := hb.form
  go_enter Tryz.func72, Tryz.ntmps72
  go_wp2_with fail
  go_ret
  exact ⟨congrArg (fun x => Ending.returned (Value.bool x)) (by rw [Bool.eq_iff_iff]; simp), rfl⟩
end Go.Proofs.YtilbffgpniomcaaGreatDoor

/- manifest: pointed, replayed. -/
namespace Go.Proofs.YtilbffgpniomcaaGreatDoor
open Go.RowKit Go.Shelf

/-- A slice of slices of bytes. -/
def DsR (w : World) (v : Value) (ds : List (List UInt8)) : Prop :=
  ∃ a cap, v = .slice a ds.length cap ∧ ds.length ≤ maxLen ∧ ∀ j (hj : j < ds.length), ∃ g u, a = some ⟨g, 0, none⟩ ∧ g < w.heap.size ∧ w.cell? ⟨g, j, none⟩ = some u ∧ Reads w u ds[j]
theorem DsR.form {w : World} {v : Value} {ds : List (List UInt8)} (h : DsR w v ds) : ∃ a cap, v = .slice a ds.length cap ∧ ds.length ≤ maxLen := by
  obtain ⟨a, cap, h1, h2, _⟩ := h
  exact ⟨a, cap, h1, h2⟩
theorem DsR.at {w : World} {a : Option Addr} {n cap : Nat} {ds : List (List UInt8)} (h : DsR w (.slice a n cap) ds) {j : Nat} (hj : j < ds.length) {d : List UInt8} (hd : d = ds[j]) : ∃ g u, a = some ⟨g, 0, none⟩ ∧ g < w.heap.size ∧ w.cell? ⟨g, j, none⟩ = some u ∧ Reads w u d := by
  subst hd
  obtain ⟨a', cap', e, _, h3⟩ := h
  cases e
  exact h3 j hj
theorem DsR.below {w w' : World} {v : Value} {ds : List (List UInt8)} (h : DsR w v ds) (hb : Below w.heap.size w w') : DsR w' v ds := by
  obtain ⟨a, cap, h1, h2, h3⟩ := h
  refine ⟨a, cap, h1, h2, fun j hj => ?_⟩
  obtain ⟨g, u, q1, q2, q3, q4⟩ := h3 j hj
  exact ⟨g, u, q1, Nat.lt_of_lt_of_le q2 hb.size, (hb.cell (p := ⟨g, j, none⟩) q2).trans q3, q4.below hb⟩
theorem row_formS {w : World} {base n size : Nat} {e : TypeId} {v : Value} {xs : List Value} (h : w.ownsRow base e size v n xs) : ∃ a c, v = .slice a n c := by
  rcases h.2 with ⟨h1, h2⟩ | ⟨g, cap, cur, h1, _⟩
  · exact ⟨none, 0, by rw [h1, h2]⟩
  · exact ⟨_, cap, h1⟩
theorem dsr_of {w : World} {base : Nat} {vl : Value} {xs : List Fr} (h : w.ownsRow base 22 1 vl xs.length (xs.map Fr.v)) (hx : ∀ x ∈ xs, Own w base x.v x.D) : DsR w vl (xs.map Fr.D) := by
  have h' : w.ownsRow base 22 1 vl (xs.map Fr.v).length (xs.map Fr.v) := by rw [List.length_map]; exact h
  rcases Nat.eq_zero_or_pos xs.length with h0 | h0
  · obtain ⟨a, c, hv⟩ := row_formS h
    have : xs = [] := List.length_eq_zero_iff.1 h0
    subst this
    exact ⟨a, c, hv, Nat.zero_le _, fun j hj => by simp at hj⟩
  · obtain ⟨g, cap, hv, _, hg, hc⟩ := row_at h' (by simpa using h0)
    have hm : xs.length ≤ maxLen := by
      rcases h.2 with ⟨_, q⟩ | ⟨g', cap', cur, _, _, _, q1, q2, _⟩
      · rw [q]; exact Nat.zero_le _
      · exact Nat.le_trans q1 q2
    refine ⟨_, cap, by simpa using hv, by simpa using hm, fun j hj => ?_⟩
    simp only [List.length_map] at hj
    refine ⟨g, xs[j].v, rfl, hg, by have := hc j (by simpa using hj); simpa using this, ?_⟩
    have := (hx xs[j] (List.getElem_mem hj)).reads
    simpa using this
theorem fm_of {xs : List Fr} {bs : List UInt8} (h : xs.map Fr.p = alF (bs.length + 1) bs) : xs.map Fr.D = fmS bs := by
  unfold fmS
  rw [← h, List.map_map]
  rfl
theorem jr_one (w : World) (n : Int) : JR (w.alloc (.cells #[.int .i64 n] 2)) (.slice (some ⟨w.heap.size, 0, none⟩) 1 1) [n] :=
  ⟨_, 1, rfl, by simp [maxLen], fun j hj => by
    have : j = 0 := by simp at hj; omega
    subst this
    exact ⟨w.heap.size, 0, rfl, by simp, (cellB (heap_alloc_new w _)).1⟩⟩
theorem shB_one (n : Int) : shB [n] = sh n.toNat := by unfold shB; simp
def PtP (b : List UInt8) (w : World) (e : Ending) (w' : World) : Prop := ∃ n ok, e = .returned (.tuple #[.int .i64 n, .bool ok]) ∧ ok = (ptF b).isSome ∧ (∀ v, ptF b = some v → n = v) ∧ Below w.heap.size w w'
set_option maxRecDepth 100000 in
set_option maxHeartbeats 1000000 in
theorem pointed_any (bv : Value) (b : List UInt8) (w : World) (h : Reads w bv b) : Calls Tryz.prog 37 #[bv] w (PtP b w) := by
  obtain ⟨ba, bcp, rfl, _⟩ := h.form
  have HRd : Hid (Reads w (.slice ba b.length bcp) b) := h
  obtain ⟨BL, HBL⟩ := hid_ex b.length
  rw [← HBL.out] at HRd ⊢
  clear h
  have HN := next_any _ b w HRd.out
  obtain ⟨D, HD⟩ := hid_ex (nxF b).1
  obtain ⟨K, HK⟩ := hid_ex (nxF b).2.1
  obtain ⟨E, HE⟩ := hid_ex (nxF b).2.2
  rw [← HD.out, ← HK.out, ← HE.out] at HN
  have HN' : Hid (Calls Tryz.prog 69 #[.slice ba BL bcp] w _) := HN
  clear HN
  go_enter Tryz.func37, Tryz.ntmps37
  go_wp2_with fail
  refine HN'.out.mono ?_
  rintro e w1 ⟨vd, rfl, hod, hb1⟩
  have HS := readShort_any vd D w1 hod.reads
  obtain ⟨da, dc, hvd, _⟩ := hod.form
  subst hvd
  obtain ⟨DL, HDL⟩ := hid_ex D.length
  rw [← HDL.out] at HS ⊢
  obtain ⟨V, HV⟩ := hid_ex (rsF D 0 0).1
  obtain ⟨U, HU⟩ := hid_ex (rsF D 0 0).2.1
  obtain ⟨E2, HE2⟩ := hid_ex (rsF D 0 0).2.2
  rw [← HV.out, ← HU.out, ← HE2.out] at HS
  have HS' : Hid (Calls Tryz.prog 70 #[.slice da DL dc] w1 _) := HS
  have HB1 : Hid (Below w.heap.size w w1) := hb1
  have HP : Hid (ptF b = if 1 ≤ V ∧ V ≤ 1099511627776 ∧ frm (sh V) = b then some (V : Int) else none) := by unfold Hid ptF; rw [← HD.out, ← HV.out]
  clear hod hb1 HS HN'
  go_wp2_with fail
  refine HS'.out.mono ?_
  rintro e w2 ⟨rfl, hb2⟩
  have HB2 : Hid (Below w.heap.size w w2) := HB1.out.trans (hb2.mono HB1.out.size)
  clear hb2 HS' HB1 HV HU HE2 HD HK HE HDL
  by_cases h1 : V < 1
  · have h1' : (V : Int) < 1 := by omega
    have HQ : Hid (ptF b = none) := by unfold Hid; rw [HP.out, if_neg (by omega)]
    go_wp2_with fail
    go_ret2
    exact ⟨0, false, rfl, by rw [HQ.out]; rfl, (fun v e => by rw [HQ.out] at e; cases e), HB2.out⟩
  · have h1' : ¬ (V : Int) < 1 := by omega
    by_cases h2 : 1099511627776 < V
    · have h2' : (1099511627776 : Int) < (V : Int) := by omega
      have HQ : Hid (ptF b = none) := by unfold Hid; rw [HP.out, if_neg (by omega)]
      go_wp2_with fail
      go_ret2
      exact ⟨0, false, rfl, by rw [HQ.out]; rfl, (fun v e => by rw [HQ.out] at e; cases e), HB2.out⟩
    · have h2' : ¬ (1099511627776 : Int) < (V : Int) := by omega
      have d2' : decide ((1099511627776 : Int) < (V : Int)) = false := decide_eq_false h2'
      have hw : IntKind.i64.wrap (V : Int) = (V : Int) := Go.IntWalk.i64_in _ (by omega)
      have HS := short13_any (.slice (some ⟨w2.heap.size, 0, none⟩) 1 1) [(V : Int)] (by simp) (fun x hx => by simp only [List.mem_singleton] at hx; omega) (w2.alloc (.cells #[.int .i64 (V : Int)] 2)) (jr_one w2 V)
      rw [shB_one, Int.toNat_natCast] at HS
      have HS' : Hid (Calls Tryz.prog 47 #[.slice (some ⟨w2.heap.size, 0, none⟩) 1 1] (w2.alloc (.cells #[.int .i64 (V : Int)] 2)) _) := HS
      clear HS
      go_wp2_with fail
      refine HS'.out.mono ?_
      rintro e w3 ⟨v3, rfl, ho3, hb3⟩
      have HB3 : Hid (Below w.heap.size w w3) := (HB2.out.alloc HB2.out.size _).trans (hb3.mono (by have := HB2.out.size; simp; omega))
      have HFr := frame_any v3 (sh V) (by have := sh_len10 (n := V) (by omega); omega) w3 ho3.reads
      obtain ⟨a3, c3, hv3, _⟩ := ho3.form
      subst hv3
      obtain ⟨L3, HL3⟩ := hid_ex (sh V).length
      rw [← HL3.out] at HFr ⊢
      have HFr' : Hid (Calls Tryz.prog 71 #[.slice a3 L3 c3] w3 _) := HFr
      clear ho3 hb3 HFr HS'
      go_wp2_with fail
      refine HFr'.out.mono ?_
      rintro e w4 ⟨v4, rfl, ho4, hb4⟩
      have HB4 : Hid (Below w.heap.size w w4) := HB3.out.trans (hb4.mono HB3.out.size)
      have HEq := equal_any v4 (.slice ba BL bcp) (frm (sh V)) b w4 ho4.reads (HRd.out.below HB4.out)
      obtain ⟨a4, c4, hv4, _⟩ := ho4.form
      subst hv4
      obtain ⟨L4, HL4⟩ := hid_ex (frm (sh V)).length
      rw [← HL4.out] at HEq ⊢
      have HEq' : Hid (Calls Tryz.prog 72 #[.slice a4 L4 c4, .slice ba BL bcp] w4 _) := HEq
      clear ho4 hb4 HEq HFr'
      go_wp2_with fail
      refine HEq'.out.mono ?_
      rintro e w5 ⟨rfl, rfl⟩
      go_wp2_with fail
      go_ret2
      refine ⟨V, decide (frm (sh V) = b), rfl, ?_, fun v e => ?_, HB4.out⟩
      · rw [HP.out]
        by_cases hf : frm (sh V) = b
        · rw [if_pos ⟨by omega, by omega, hf⟩, decide_eq_true hf]; rfl
        · rw [if_neg (fun z => hf z.2.2), decide_eq_false hf]; rfl
      · rw [HP.out] at e
        split at e
        · simpa using e
        · cases e
end Go.Proofs.YtilbffgpniomcaaGreatDoor

/- manifest: replayed (written by mkml3.py). -/
namespace Go.Proofs.YtilbffgpniomcaaGreatDoor
open Go.RowKit Go.Shelf

def RpP (R : St × Bool) (w : World) (e : Ending) (w' : World) : Prop := ∃ v, e = .returned (.tuple #[.agg #[v, .int .i64 R.1.lo, .int .i64 R.1.ne, .int .i64 R.1.ma], .bool R.2]) ∧ UR w' v R.1.ru ∧ Below w.heap.size w w' ∧ ∀ Q, Q < w.heap.size → notP Q v R.1.ru
theorem edR_len {b : List UInt8} {x : Ed} (h : edR b = some x) : x.dr.length ≤ 64 ∧ x.ad.length ≤ 64 := by
  have := edW_rd h
  unfold edW at this
  split at this
  · cases this
  · omega
set_option maxRecDepth 100000 in
set_option maxHeartbeats 4000000 in
theorem replayed_any (bv : Value) (b : List UInt8) (hbl : b.length ≤ 1000000) (w : World) (h : Reads w bv b) : Calls Tryz.prog 39 #[bv] w (RpP (rpF (fmS b) st0 false) w) := by
  obtain ⟨ba, bcp, rfl, _⟩ := h.form
  have hAll := all_any _ b hbl (w.alloc (.cells #[.slice none 0 0, .int .i64 0, .int .i64 0, .int .i64 0] 33)) (h.below ((Below.refl _ _).alloc (Nat.le_refl _) _))
  obtain ⟨BL, HBL⟩ := hid_ex b.length
  rw [← HBL.out] at hAll ⊢
  rw [HBL.out] at hAll
  obtain ⟨KS, HKS⟩ := hid_ex (ksum (alF (b.length + 1) b))
  rw [← HKS.out, ← HBL.out] at hAll
  have HAll : Hid (Calls Tryz.prog 75 #[.slice ba BL bcp] (w.alloc (.cells #[.slice none 0 0, .int .i64 0, .int .i64 0, .int .i64 0] 33)) _) := hAll
  obtain ⟨R, HR⟩ := hid_ex (rpF (fmS b) st0 false)
  rw [← HR.out]
  clear h hAll
  go_enter Tryz.func39, Tryz.ntmps39
  go_wp2_with fail
  refine HAll.out.mono ?_
  rintro e W1 ⟨vl, xs, rfl, hxs, hrow, hown, hb1⟩
  have hD : DsR W1 vl (fmS b) := by rw [HBL.out] at hxs; rw [← fm_of hxs]; exact dsr_of hrow hown
  obtain ⟨ds, Hds⟩ := hid_ex (fmS b)
  rw [← Hds.out] at hD HR
  obtain ⟨fa, fcp, hvl, hfm⟩ := hD.form
  subst hvl
  obtain ⟨FL, HFL⟩ : ∃ n, Hid (ds.length = n) := ⟨_, rfl⟩
  rw [HFL.out] at hD hfm ⊢
  unfold maxLen at hfm
  have HD : Hid (DsR W1 (.slice fa FL fcp) ds) := hD
  have HB1 : Hid (Below w.heap.size w W1) := ((Below.refl _ _).alloc (Nat.le_refl _) _).trans (hb1.mono (by simp))
  have hz1 : w.heap.size < W1.heap.size := by have := hb1.size; simp at this; omega
  have HA1 : Hid (W1.heap[w.heap.size]? = some (.cells #[.slice none 0 0, .int .i64 0, .int .i64 0, .int .i64 0] 33)) := (hb1.block _ (by simp)).trans (heap_alloc_new _ _)
  clear hrow hown hb1 hxs hD HAll HKS Hds
  go_wp2_with (refine stop_store 33 _ _ rfl ?_)
  refine Stop.of ?_
  refine wpList_storeN rfl _ _ _ rfl W1.heap.size 0 [.slice none 0 0, .int .i64 1, .int .i64 2, .int .i64 0] rfl rfl _ _ (heap_alloc_new _ _) (by simp) (by kernel_rfl) (by kernel_rfl) ?_
  intro W2 hW2
  obtain ⟨hb2, hp2, _⟩ := stW_nw hW2 (by simp)
  have HB2 : Hid (Below W1.heap.size W1 W2) := hb2
  have HP2 : Hid (W2.heap[W1.heap.size]? = some (.cells #[.slice none 0 0, .int .i64 1, .int .i64 2, .int .i64 0] 33)) := hp2
  obtain ⟨P, HPe⟩ := hid_ex W1.heap.size
  rw [← HPe.out]
  clear hW2 hb2 hp2
  go_wp2_with fail
  go_loopw [7, 21] (fun mv iv wr => ∃ (j SL sc : Nat) (sa : Option Addr) (s : St) (m : Bool), mv = .bool m ∧ iv = .int .i64 (j : Int) ∧ j ≤ FL ∧ Hid (s.ru.length = SL) ∧ Hid (UR wr (.slice sa SL sc) s.ru) ∧ Hid (notP P (.slice sa SL sc) s.ru ∧ ∀ Q, Q ≤ w.heap.size → notP Q (.slice sa SL sc) s.ru) ∧ Hid (okSt s ∧ R = rpF (ds.drop j) s m) ∧ Hid (wr.heap[P]? = some (.cells #[.slice sa SL sc, .int .i64 s.lo, .int .i64 s.ne, .int .i64 s.ma] 33)) ∧ Hid (Below P W1 wr)) (fun _ iv _ => FL - (intOf iv).toNat)
  case atStart => exact ⟨0, 0, 0, none, st0, false, rfl, rfl, by omega, rfl, ur_nil _, ⟨fun h => by simp [st0] at h, fun _ _ h => by simp [st0] at h⟩, ⟨st0_ok, HR.out⟩, by unfold Hid; rw [HPe.out]; exact HP2.out, by unfold Hid; rw [HPe.out]; exact HB2.out⟩
  case round =>
    clear HP2 HB2 HR
    obtain ⟨j, SL, sc, sa, s, m, rfl, rfl, hj, HSL, HU, HN, HI, HP, HB⟩ := hrel
    have hPz : P < wr.heap.size := (Array.getElem?_eq_some_iff.1 HP.out).1
    have HPz : Hid (P = W1.heap.size) := HPe.out
    have hwP : w.heap.size < P := by rw [HPe.out]; exact hz1
    have HA : Hid (wr.heap[w.heap.size]? = some (.cells #[.slice none 0 0, .int .i64 0, .int .i64 0, .int .i64 0] 33)) := (HB.out.block _ hwP).trans HA1.out
    have HBw : Hid (Below w.heap.size w wr) := HB1.out.trans (HB.out.mono (by omega))
    have HOn : Hid (([.slice sa SL sc, .int .i64 s.lo, .int .i64 s.ne, .int .i64 s.ma] : List Value).toArray.all (·.oneCell') = true) := by unfold Hid; kernel_rfl
    obtain ⟨p0, p1, p2, p3⟩ := four13 HP.out
    by_cases hlt : j < FL
    · have hlt' : (j : Int) < (FL : Int) := by omega
      have hjl : j < ds.length := by rw [HFL.out]; exact hlt
      obtain ⟨d, Hd⟩ := hid_ex ds[j]
      have Hdr : Hid (ds.drop j = d :: ds.drop (j + 1)) := by unfold Hid; rw [Hd.out]; exact List.drop_eq_getElem_cons hjl
      obtain ⟨g, u, hfa, hg, hc, hrd⟩ := (HD.out.below (by rw [HPe.out] at HB; exact HB.out)).at hjl Hd.out
      obtain ⟨ua, uc, hu, hum⟩ := hrd.form
      subst hu
      subst hfa
      have HRd := read13c_any _ d wr hrd
      obtain ⟨UL, HUL⟩ := hid_ex d.length
      rw [← HUL.out] at HRd hc
      have HRd' : Hid (Calls Tryz.prog 76 #[.slice ua UL uc] wr _) := HRd
      clear HRd hrd hum
      go_wp2_with fail
      refine HRd'.out.mono ?_
      clear HRd' hc
      rintro e W3 ⟨dv, av, rfl, hed, hb3, hcu⟩
      obtain ⟨da, dc, hdv, hdm⟩ := hed.d.form
      obtain ⟨aa, ac, hav, ham⟩ := hed.a.form
      subst hdv
      subst hav
      obtain ⟨X, HX⟩ := hid_ex ((edR d).getD edZ)
      obtain ⟨EE, HEE⟩ := hid_ex (edE (edR d))
      rw [← HX.out] at hed hdm ham hcu ⊢
      rw [← HEE.out]
      obtain ⟨DL, HDL⟩ : ∃ n, Hid (X.dr.length = n) := ⟨_, rfl⟩
      obtain ⟨AL, HAL⟩ : ∃ n, Hid (X.ad.length = n) := ⟨_, rfl⟩
      rw [HDL.out, HAL.out] at hed
      rw [HAL.out] at hcu
      rw [HDL.out, HAL.out]
      have HEd : Hid (EdR W3 (.slice da DL dc) (.slice aa AL ac) X) := hed
      have HCu : Hid (CapU (.slice aa AL ac)) := hcu
      have HB3 : Hid (Below wr.heap.size wr W3) := hb3
      have hz3 := hb3.size
      have HOn2 : Hid (([.slice da DL dc, .slice aa AL ac, .int .i64 X.lo, .int .i64 X.ne, .int .i64 X.ma] : List Value).toArray.all (·.oneCell') = true) := by unfold Hid; kernel_rfl
      clear hed hcu hb3 hdm ham
      go_wp2_with (refine stop_store 52 _ _ rfl ?_)
      refine Stop.of ?_
      refine wpList_storeN rfl _ _ _ rfl W3.heap.size 0 [.slice da DL dc, .slice aa AL ac, .int .i64 X.lo, .int .i64 X.ne, .int .i64 X.ma] rfl rfl _ _ (heap_alloc_new _ _) (by simp) (by kernel_rfl) HOn2.out ?_
      intro W4 hW4
      obtain ⟨hb4, hx4, hz4⟩ := stW_nw hW4 (by simp)
      have HB4 : Hid (Below wr.heap.size wr W4) := HB3.out.trans (hb4.mono hz3)
      have HU4 : Hid (UR W4 (.slice sa SL sc) s.ru) := HU.out.below HB4.out
      have HP4 : Hid (W4.heap[P]? = some (.cells #[.slice sa SL sc, .int .i64 s.lo, .int .i64 s.ne, .int .i64 s.ma] 33)) := (HB4.out.block _ hPz).trans HP.out
      have HA4 : Hid (W4.heap[w.heap.size]? = some (.cells #[.slice none 0 0, .int .i64 0, .int .i64 0, .int .i64 0] 33)) := (HB4.out.block _ (by omega)).trans HA.out
      have HBw4 : Hid (Below w.heap.size w W4) := HBw.out.trans (HB4.out.mono HBw.out.size)
      have HEd4 : Hid (EdR W4 (.slice da DL dc) (.slice aa AL ac) X) := HEd.out.below hb4
      have HX4 : Hid (W4.heap[W3.heap.size]? = some (.cells #[.slice da DL dc, .slice aa AL ac, .int .i64 X.lo, .int .i64 X.ne, .int .i64 X.ma] 52)) := hx4
      have HBP4 : Hid (Below P W1 W4) := HB.out.trans (HB4.out.mono (by omega))
      clear hW4 hb4 hx4 HEd HB3 p0 p1 p2 p3
      obtain ⟨p0, p1, p2, p3⟩ := four13 HP4.out
      cases hed : edR d with
      | none =>
        have hE : EE = 100 := by rw [HEE.out, hed]; rfl
        have HQ : Hid (R = (s, m)) := by unfold Hid; rw [HI.out.2, Hdr.out, rpF_no _ _ _ hed]
        subst hE
        clear HEE HX hed
        go_wp2_with (refine stop_store 33 _ _ rfl ?_)
        refine Stop.of ?_
        refine wpList_storeN rfl _ _ _ rfl w.heap.size 0 [.slice sa SL sc, .int .i64 s.lo, .int .i64 s.ne, .int .i64 s.ma] rfl rfl _ _ HA4.out (by simp) (by kernel_rfl) HOn.out ?_
        intro W9 hW9
        have HK9 := stW_all hW9 (by simp)
        have HB9 : Hid (Below w.heap.size w W9) := HBw4.out.trans (hW9.b _ (Nat.le_refl _))
        have HU9 : Hid (UR W9 (.slice sa SL sc) s.ru) := ⟨HU4.out.r.keepC fun h0 b off n c e => hW9.o b (HN.out.2 _ (Nat.le_refl _) h0 b off n c e), HU4.out.c, HU4.out.z⟩
        clear hW9
        go_wp2_with fail
        refine bodyPost_ret (results_c13 rfl _ _ w.heap.size _ rfl (run_loadVar_row _ w.heap.size _ _ _ (0, 0) _ HK9 Tryz.underlying33 rfl (by kernel_rfl))) rfl ?_
        exact ⟨_, by rw [HQ.out]; rfl, by rw [HQ.out]; exact HU9.out, HB9.out, by rw [HQ.out]; exact fun Q hQ => HN.out.2 Q (Nat.le_of_lt hQ)⟩
      | some x =>
        have hE : EE = 0 := by rw [HEE.out, hed]; rfl
        have hXx : X = x := by rw [HX.out, hed]; rfl
        subst hXx
        have HEr : Hid (edR d = some X) := hed
        subst hE
        clear HEE HX hed
        obtain ⟨q0, q1, q2, q3, q4⟩ := five HX4.out
        have HAp := apply13f_any _ _ _ s X W4 HU4.out HEd4.out.d ⟨HEd4.out.a, HCu.out.1, HCu.out.2⟩ (Nat.le_trans (edR_len HEr.out).2 (by decide))
        have HAp' : Hid (Calls Tryz.prog 28 #[.agg #[.slice sa SL sc, .int .i64 s.lo, .int .i64 s.ne, .int .i64 s.ma], .agg #[.slice da DL dc, .slice aa AL ac, .int .i64 X.lo, .int .i64 X.ne, .int .i64 X.ma]] W4 _) := HAp
        clear HAp
        go_wp2_with fail
        refine HAp'.out.mono ?_
        clear HAp' p0 p1 p2 p3 q0 q1 q2 q3 q4
        rintro e W5 ⟨v5, rfl, hu5, hb5, hn5⟩
        obtain ⟨a5, c5, hv5, _⟩ := hu5.r.form
        subst hv5
        obtain ⟨T, HT⟩ := hid_ex ((apS s X).1.getD stZ)
        obtain ⟨E5, HE5⟩ := hid_ex (apS s X).2
        rw [← HT.out] at hu5 hn5 ⊢
        rw [← HE5.out]
        obtain ⟨L5, HL5⟩ : ∃ n, Hid (T.ru.length = n) := ⟨_, rfl⟩
        rw [HL5.out] at hu5 hn5 ⊢
        have HU5 : Hid (UR W5 (.slice a5 L5 c5) T.ru) := hu5
        have HB5 : Hid (Below W4.heap.size W4 W5) := hb5
        have hz5 := hb5.size
        have HN5 : Hid (notP P (.slice a5 L5 c5) T.ru ∧ ∀ Q, Q ≤ w.heap.size → notP Q (.slice a5 L5 c5) T.ru) := ⟨hn5 P (by have := HB4.out.size; omega) HN.out.1, fun Q hQ => hn5 Q (by have := HB4.out.size; omega) (HN.out.2 Q hQ)⟩
        have HOn5 : Hid (([.slice a5 L5 c5, .int .i64 T.lo, .int .i64 T.ne, .int .i64 T.ma] : List Value).toArray.all (·.oneCell') = true) := by unfold Hid; kernel_rfl
        clear hu5 hb5 hn5
        go_wp2_with (refine stop_store 33 _ _ rfl ?_)
        refine Stop.of ?_
        refine wpList_storeN rfl _ _ _ rfl W5.heap.size 0 [.slice a5 L5 c5, .int .i64 T.lo, .int .i64 T.ne, .int .i64 T.ma] rfl rfl _ _ (heap_alloc_new _ _) (by simp) (by kernel_rfl) HOn5.out ?_
        intro W6 hW6
        obtain ⟨hb6, hx6, hz6⟩ := stW_nw hW6 (by simp)
        have HB46 : Hid (Below W4.heap.size W4 W6) := HB5.out.trans (hb6.mono hz5)
        have HU6 : Hid (UR W6 (.slice a5 L5 c5) T.ru) := HU5.out.below hb6
        have HU6s : Hid (UR W6 (.slice sa SL sc) s.ru) := HU4.out.below HB46.out
        have hP4z : P < W4.heap.size := by have := HB4.out.size; omega
        have HP6 : Hid (W6.heap[P]? = some (.cells #[.slice sa SL sc, .int .i64 s.lo, .int .i64 s.ne, .int .i64 s.ma] 33)) := (HB46.out.block _ hP4z).trans HP4.out
        have HA6 : Hid (W6.heap[w.heap.size]? = some (.cells #[.slice none 0 0, .int .i64 0, .int .i64 0, .int .i64 0] 33)) := (HB46.out.block _ (by omega)).trans HA4.out
        have HBw6 : Hid (Below w.heap.size w W6) := HBw4.out.trans (HB46.out.mono HBw4.out.size)
        have HBP6 : Hid (Below P W1 W6) := HBP4.out.trans (HB46.out.mono (by omega))
        have HX6 : Hid (W6.heap[W5.heap.size]? = some (.cells #[.slice a5 L5 c5, .int .i64 T.lo, .int .i64 T.ne, .int .i64 T.ma] 33)) := hx6
        clear hW6 hb6 hx6 HB5 HU5 HU4 HEd4 HX4
        rcases apS_cases s X with ⟨t, ht⟩ | ⟨c, ht, hc⟩
        · have hE : E5 = 0 := by rw [HE5.out, ht]
          have hTt : T = t := by rw [HT.out, ht]; rfl
          subst hTt
          have HQ : Hid (R = rpF (ds.drop (j + 1)) T true) := by unfold Hid; rw [HI.out.2, Hdr.out, rpF_on _ _ _ HEr.out (by rw [ht])]
          have HOk : Hid (okSt T) := (apS_ok ht).ok
          subst hE
          clear HE5 HT ht
          obtain ⟨p0, p1, p2, p3⟩ := four13 HX6.out
          go_wp2_with (refine stop_store 33 _ _ rfl ?_)
          refine Stop.of ?_
          refine wpList_storeN rfl _ _ _ rfl P 0 [.slice a5 L5 c5, .int .i64 T.lo, .int .i64 T.ne, .int .i64 T.ma] rfl rfl _ _ HP6.out (by simp) (by kernel_rfl) HOn5.out ?_
          intro W7 hW7
          have HK7 := stW_all hW7 (by simp)
          have HU7 : Hid (UR W7 (.slice a5 L5 c5) T.ru) := ⟨HU6.out.r.keepC fun h0 b off n c e => hW7.o b (HN5.out.1 h0 b off n c e), HU6.out.c, HU6.out.z⟩
          have HBP7 : Hid (Below P W1 W7) := HBP6.out.trans (hW7.b _ (Nat.le_refl _))
          clear hW7 p0 p1 p2 p3
          go_wp2_with fail
          go_roundw
          case rel => exact ⟨j + 1, L5, c5, a5, T, true, rfl, by go_num, by omega, HL5, HU7, HN5, ⟨HOk.out, HQ.out⟩, HK7, HBP7⟩
          case measure => simp [intOf]; omega
        · have hE : E5 = c := by rw [HE5.out, ht]
          have HQ : Hid (R = (s, m)) := by unfold Hid; rw [HI.out.2, Hdr.out, rpF_stop _ _ _ HEr.out (by rw [ht])]
          have hc0 : ¬ c = 0 := by omega
          have hc' : (c != 0) = true := by simpa using hc0
          subst hE
          clear HT ht HE5
          obtain ⟨p0, p1, p2, p3⟩ := four13 HP6.out
          go_wp2_with (refine stop_store 33 _ _ rfl ?_)
          refine Stop.of ?_
          refine wpList_storeN rfl _ _ _ rfl w.heap.size 0 [.slice sa SL sc, .int .i64 s.lo, .int .i64 s.ne, .int .i64 s.ma] rfl rfl _ _ HA6.out (by simp) (by kernel_rfl) HOn.out ?_
          intro W9 hW9
          have HK9 := stW_all hW9 (by simp)
          have HB9 : Hid (Below w.heap.size w W9) := HBw6.out.trans (hW9.b _ (Nat.le_refl _))
          have HU9 : Hid (UR W9 (.slice sa SL sc) s.ru) := ⟨HU6s.out.r.keepC fun h0 b off n c e => hW9.o b (HN.out.2 _ (Nat.le_refl _) h0 b off n c e), HU6s.out.c, HU6s.out.z⟩
          clear hW9
          go_wp2_with fail
          refine bodyPost_ret (results_c13 rfl _ _ w.heap.size _ rfl (run_loadVar_row _ w.heap.size _ _ _ (0, 0) _ HK9 Tryz.underlying33 rfl (by kernel_rfl))) rfl ?_
          exact ⟨_, by rw [HQ.out]; rfl, by rw [HQ.out]; exact HU9.out, HB9.out, by rw [HQ.out]; exact fun Q hQ => HN.out.2 Q (Nat.le_of_lt hQ)⟩
    · have hlt' : ¬ (j : Int) < (FL : Int) := by omega
      have HQ : Hid (R = (s, m)) := by unfold Hid; rw [HI.out.2, List.drop_eq_nil_of_le (by rw [HFL.out]; omega)]; rfl
      go_wp2_with (refine stop_store 33 _ _ rfl ?_)
      refine Stop.of ?_
      refine wpList_storeN rfl _ _ _ rfl w.heap.size 0 [.slice sa SL sc, .int .i64 s.lo, .int .i64 s.ne, .int .i64 s.ma] rfl rfl _ _ HA.out (by simp) (by kernel_rfl) HOn.out ?_
      intro W9 hW9
      have HK9 := stW_all hW9 (by simp)
      have HB9 : Hid (Below w.heap.size w W9) := HBw.out.trans (hW9.b _ (Nat.le_refl _))
      have HU9 : Hid (UR W9 (.slice sa SL sc) s.ru) := ⟨HU.out.r.keepC fun h0 b off n c e => hW9.o b (HN.out.2 _ (Nat.le_refl _) h0 b off n c e), HU.out.c, HU.out.z⟩
      clear hW9
      go_wp2_with fail
      refine bodyPost_ret (results_c13 rfl _ _ w.heap.size _ rfl (run_loadVar_row _ w.heap.size _ _ _ (0, 0) _ HK9 Tryz.underlying33 rfl (by kernel_rfl))) rfl ?_
      exact ⟨_, by rw [HQ.out]; rfl, by rw [HQ.out]; exact HU9.out, HB9.out, by rw [HQ.out]; exact fun Q hQ => HN.out.2 Q (Nat.le_of_lt hQ)⟩
end Go.Proofs.YtilbffgpniomcaaGreatDoor

/- manifest: extend, create. -/
namespace Go.Proofs.YtilbffgpniomcaaGreatDoor
open Go.RowKit Go.Shelf

theorem row_new {A B : World} {base : Nat} {e : TypeId} {size : Nat} {v : Value} {k : Nat} {xs : List Value} (h : A.ownsRow base e size v k xs) (hk : ∀ k, base ≤ k → k < A.heap.size → B.heap[k]? = A.heap[k]?) : B.ownsRow base e size v k xs := by
  obtain ⟨h1, h2⟩ := h
  refine ⟨h1, ?_⟩
  rcases h2 with h2 | ⟨g, cap, cur, hv, hg, hw, r⟩
  · exact .inl h2
  · exact .inr ⟨g, cap, cur, hv, hg, (hk g hg (Array.getElem?_eq_some_iff.1 hw).1).trans hw, r⟩
/-- From a world to a later one nothing has turned but blocks of O, and a file system has them and new ones. -/
structure To (w : World) (O : Nat → Prop) (w' : World) (O' : Nat → Prop) : Prop where
  g : ∀ k, O' k → Grw O w w' k
  o : Onl O w w'
theorem To.refl (w : World) (O : Nat → Prop) : To w O w O := ⟨fun _ h => .inl h, Onl.refl _ _⟩
theorem To.below {w w' : World} {O : Nat → Prop} (h : Below w.heap.size w w') : To w O w' O := ⟨fun _ h => .inl h, onl_of_below h⟩
theorem To.trans {w w1 w2 : World} {O O1 O2 : Nat → Prop} (h : To w O w1 O1) (h' : To w1 O1 w2 O2) : To w O w2 O2 :=
  ⟨fun k hk => (Grw.trans h.o.size h'.o.size) k (by
    rcases h'.g k hk with q | q
    · exact .inl (h.g k q)
    · exact .inr q), h.o.trans (h'.o.mono h.g)⟩
theorem To.then {w w1 w2 : World} {O O1 : Nat → Prop} (h : To w O w1 O1) (hb : Below w1.heap.size w1 w2) : To w O w2 O1 := h.trans (To.below hb)
theorem To.fsr {w w1 w2 : World} {O O1 : Nat → Prop} (h : To w O w1 O1) (ho : Onl O1 w1 w2) : To w O w2 (Grw O1 w1 w2) := h.trans ⟨fun _ h => h, ho⟩
def AdPost (w : World) (O : Nat → Prop) (p : Value) (R : Int × SfS) (e : Ending) (w' : World) : Prop := ∃ O', e = .returned (.int .i64 R.1) ∧ Fs w' O' p R.2 ∧ To w O w' O'
set_option maxRecDepth 100000 in
set_option maxHeartbeats 1000000 in
theorem extend_any {w : World} {O : Nat → Prop} {p : Value} {s : SfS} (h : Fs w O p s) (nm : List UInt8) (hn : nm.length ≤ maxLen) (dv : Value) (d : List UInt8) (hd : d.length ≤ 65535) (hR : Reads w dv d) :
    Calls Tryz.prog 55 #[p, .string ⟨nm.toArray⟩, dv] w (AdPost w O p (mfExt s nm d)) := by
  obtain ⟨g0, rfl⟩ := h.ptr
  have HFs : Hid (Fs w O (.pointer (some ⟨g0, 0, none⟩)) s) := h
  have HN : Hid (nm.length ≤ maxLen) := hn
  have HC : Hid (Calls Tryz.prog 71 #[dv] w _) := frame_any dv d hd w hR
  obtain ⟨da, dc, rfl, _⟩ := hR.form
  obtain ⟨R, HRR⟩ := hid_ex (mfExt s nm d)
  rw [← HRR.out]
  clear h hn hd hR
  go_enter Tryz.func55, Tryz.ntmps55
  go_wp2_with fail
  refine HC.out.mono ?_
  rintro e w1 ⟨vf, rfl, hof, hb1⟩
  have HF1 : Hid (Fs w1 O (.pointer (some ⟨g0, 0, none⟩)) s) := HFs.out.below hb1
  have HT1 : Hid (To w O w1 O) := To.below hb1
  have HRD : Hid (∀ w', Onl O w1 w' → Reads w' vf (frm d)) := fun w' ho => Own.reads (row_new hof (fun k h1 h2 => ho.block k h2 (fun z => by have := HFs.out.lt k z; omega)))
  obtain ⟨fa, fcp, hvv, _⟩ := hof.form
  subst hvv
  have HA : Hid (Calls Tryz.prog 10 #[.pointer (some ⟨g0, 0, none⟩), .string ⟨nm.toArray⟩, .slice fa (frm d).length fcp] w1 _) := HF1.out.append nm HN.out _ (frm d) HRD.out
  obtain ⟨FL, HFL⟩ := hid_ex (frm d).length
  rw [← HFL.out] at HA
  try rw [← HFL.out]
  clear hof hb1 HRD
  go_wp2_with fail
  refine HA.out.mono ?_
  rintro e w2 ⟨rfl, hf2, ho2⟩
  rcases hc : sfAppend s nm (frm d) with ⟨c1, c2⟩
  rw [hc] at hf2
  simp only at hf2 ⊢
  have HF2 : Hid (Fs w2 (Grw O w1 w2) (.pointer (some ⟨g0, 0, none⟩)) c2) := hf2
  have HT2 : Hid (To w O w2 (Grw O w1 w2)) := HT1.out.fsr ho2
  have HE : Hid (R = sfThen (c1, c2) fun t => sfSync t nm) := by unfold Hid; rw [HRR.out, ← hc]; rfl
  clear hf2 ho2 hc HA HF1 HT1
  by_cases hz : c1 = 0
  · subst hz
    go_wp2_with fail
    refine (HF2.out.sync nm HN.out).mono ?_
    rintro e w3 ⟨rfl, hf3, ho3⟩
    have HF3 : Hid (Fs w3 _ _ _) := hf3
    have HT3 : Hid (To w O w3 _) := HT2.out.fsr ho3
    clear hf3 ho3
    have HE3 : Hid (sfSync c2 nm = R) := by unfold Hid; rw [HE.out, sfThen_0]
    rw [HE3.out] at HF3 ⊢
    go_wp2_with fail
    go_ret
    exact ⟨_, rfl, HF3.out, HT3.out⟩
  · have hz' : (c1 != 0) = true := by simpa using hz
    have HE3 : Hid (R = (c1, c2)) := by unfold Hid; rw [HE.out, sfThen_no hz]
    go_wp2_with fail
    go_ret
    exact ⟨_, by rw [HE3.out]; rfl, by rw [HE3.out]; exact HF2.out, HT2.out⟩
set_option maxRecDepth 100000 in
set_option maxHeartbeats 1000000 in
theorem mcreate_any {w : World} {O : Nat → Prop} {p : Value} {s : SfS} (h : Fs w O p s) (nm : List UInt8) (hn : nm.length ≤ maxLen) (dv : Value) (d : List UInt8) (hd : d.length ≤ 65535) (hR : ∀ w', Onl O w w' → Reads w' dv d) (hpn : s.pend.length < 1099511627776) :
    Calls Tryz.prog 44 #[p, .string ⟨nm.toArray⟩, dv] w (AdPost w O p (mfCre s nm d)) := by
  obtain ⟨g0, rfl⟩ := h.ptr
  have HN : Hid (nm.length ≤ maxLen) := hn
  have HD : Hid (d.length ≤ 65535) := hd
  have HRD : Hid (∀ w', Onl O w w' → Reads w' dv d) := hR
  have HC : Hid (Calls Tryz.prog 9 #[.pointer (some ⟨g0, 0, none⟩), .string ⟨nm.toArray⟩] w _) := h.create nm hn hpn
  obtain ⟨da, dc, rfl, _⟩ := (hR w (Onl.refl _ _)).form
  obtain ⟨R, HRR⟩ := hid_ex (mfCre s nm d)
  rw [← HRR.out]
  obtain ⟨DL, HDL⟩ := hid_ex d.length
  rw [← HDL.out] at HRD ⊢
  clear h hn hd hR hpn
  go_enter Tryz.func44, Tryz.ntmps44
  go_wp2_with fail
  refine HC.out.mono ?_
  rintro e w2 ⟨rfl, hf2, ho2⟩
  rcases hc : sfCreate s nm with ⟨c1, c2⟩
  rw [hc] at hf2
  simp only at hf2 ⊢
  have HF2 : Hid (Fs w2 (Grw O w w2) (.pointer (some ⟨g0, 0, none⟩)) c2) := hf2
  have HT2 : Hid (To w O w2 (Grw O w w2)) := (To.refl w O).fsr ho2
  have HE : Hid (R = sfThen (c1, c2) fun t => mfExt t nm d) := by unfold Hid; rw [HRR.out, ← hc]; rfl
  have HR2 : Hid (Reads w2 (.slice da DL dc) d) := HRD.out w2 ho2
  clear hf2 ho2 hc
  by_cases hz : c1 = 0
  · subst hz
    go_wp2_with fail
    refine (extend_any HF2.out nm HN.out _ d HD.out HR2.out).mono ?_
    rintro e w3 ⟨O3, rfl, hf3, ht3⟩
    have HF3 : Hid (Fs w3 _ _ _) := hf3
    have HT3 : Hid (To w O w3 _) := HT2.out.trans ht3
    clear hf3 ht3
    have HE3 : Hid (mfExt c2 nm d = R) := by unfold Hid; rw [HE.out, sfThen_0]
    rw [HE3.out] at HF3 ⊢
    go_wp2_with fail
    go_ret
    exact ⟨_, rfl, HF3.out, HT3.out⟩
  · have hz' : (c1 != 0) = true := by simpa using hz
    have HE3 : Hid (R = (c1, c2)) := by unfold Hid; rw [HE.out, sfThen_no hz]
    go_wp2_with fail
    go_ret
    exact ⟨_, by rw [HE3.out]; rfl, by rw [HE3.out]; exact HF2.out, HT2.out⟩
end Go.Proofs.YtilbffgpniomcaaGreatDoor

/- manifest: Save, Append. -/
namespace Go.Proofs.YtilbffgpniomcaaGreatDoor
open Go.RowKit Go.Shelf

theorem pn_change (s : SfS) (a : SfA) : (sfChange s a).2.pend.length ≤ s.pend.length + 1 := by
  unfold sfChange
  split
  · simp only [List.length_append, List.length_cons, List.length_nil]; rw [sfPlan_pend]; omega
  · rw [sfPlan_pend]; omega
theorem pn_create (s : SfS) (n : List UInt8) : (sfCreate s n).2.pend.length ≤ s.pend.length + 1 := by
  unfold sfCreate
  split
  · simp
  · split
    · simp
    · split
      · simp
      · exact pn_change (sfNew s) _
theorem pn_append (s : SfS) (n b : List UInt8) : (sfAppend s n b).2.pend.length = s.pend.length := by
  unfold sfAppend
  split
  · rfl
  · split
    · rfl
    · split
      · rfl
      · split
        · show (sfPlan s).2.pend.length = _; rw [sfPlan_pend]
        · rw [sfPlan_pend]
theorem pn_sync (s : SfS) (n : List UInt8) : (sfSync s n).2.pend.length = s.pend.length := by
  unfold sfSync
  split
  · rfl
  · split
    · show (sfPlan s).2.pend.length = _; rw [sfPlan_pend]
    · rw [sfPlan_pend]
theorem pn_ext (s : SfS) (n d : List UInt8) : (mfExt s n d).2.pend.length = s.pend.length := by
  unfold mfExt sfThen
  split
  · rw [pn_sync, pn_append]
  · rw [pn_append]
theorem pn_cre (s : SfS) (n d : List UInt8) : (mfCre s n d).2.pend.length ≤ s.pend.length + 1 := by
  unfold mfCre sfThen
  split
  · rw [pn_ext]; exact pn_create s n
  · exact pn_create s n
theorem pn_syncDir (s : SfS) : (sfSyncDir s).2.pend.length ≤ s.pend.length := by
  unfold sfSyncDir
  split
  · simp [sfSettle]
  · rw [sfPlan_pend]; exact Nat.le_refl _
theorem pn_remove (s : SfS) (n : List UInt8) : (sfRemove s n).2.pend.length ≤ s.pend.length + 1 := by
  unfold sfRemove
  split
  · simp
  · exact pn_change s _
theorem edS_sm {st : St} (h : okSt st) : smI (edS st) := fun v hv => by
  obtain ⟨h1, h2, h3, h4, h5, h6, h7, h8⟩ := h
  unfold nmE edS at hv
  simp only [List.length_nil, List.nil_append, List.mem_cons, List.mem_append, List.not_mem_nil, or_false] at hv
  rcases hv with rfl | rfl | hv | rfl | rfl | rfl
  · simp
  · omega
  · obtain ⟨r, hr, hv⟩ := List.mem_flatMap.1 hv
    have := h7 r hr
    unfold fitR at this
    simp only [Ru.n, List.mem_cons, List.not_mem_nil, or_false] at hv
    omega
  · omega
  · omega
  · omega
theorem edW_len {x : Ed} {b : List UInt8} (h : edW x = some b) (hx : smI x) : b.length ≤ 65535 := by
  unfold edW at h
  split at h
  · cases h
  · rename_i h1
    split at h
    · rename_i h2
      simp only [Option.some.injEq] at h
      subst h
      unfold okN at h2
      rw [List.all_eq_true] at h2
      have := shB_len (nmE x) (fun v hv => ⟨of_decide_eq_true (h2 v hv), hx v hv⟩)
      rw [nmE_len] at this
      omega
    · cases h
set_option maxRecDepth 100000 in
set_option maxHeartbeats 4000000 in
theorem save_any {w : World} {O : Nat → Prop} {p : Value} {s : SfS} (h : Fs w O p s) (n : Int) (rv : Value) (st : St) (hU : UR w rv st.ru) (hpn : s.pend.length < 1000000) (hT : n < 100 ∨ Tb w) :
    Calls Tryz.prog 17 #[p, .int .i64 n, .agg #[rv, .int .i64 st.lo, .int .i64 st.ne, .int .i64 st.ma]] w (AdPost w O p (mfSave s n st)) := by
  obtain ⟨g0, rfl⟩ := h.ptr
  obtain ⟨sa, sc, rfl, _⟩ := hU.r.form
  have HFs : Hid (Fs w O (.pointer (some ⟨g0, 0, none⟩)) s) := h
  have HU : Hid (UR w (.slice sa st.ru.length sc) st.ru) := hU
  have HPn : Hid (s.pend.length < 1000000) := hpn
  have HTb : Hid (n < 100 ∨ Tb w) := hT
  obtain ⟨SL, HSL⟩ : ∃ k, Hid (st.ru.length = k) := ⟨_, rfl⟩
  rw [HSL.out] at HU ⊢
  obtain ⟨R, HR⟩ := hid_ex (mfSave s n st)
  rw [← HR.out]
  clear h hU hpn hT
  obtain ⟨ru, lo, ne, ma⟩ := st
  simp only at *
  have HB0 : Hid (Below w.heap.size w (w.alloc (.cells #[.slice sa SL sc, .int .i64 lo, .int .i64 ne, .int .i64 ma] 33))) := (Below.refl _ _).alloc (Nat.le_refl _) _
  obtain ⟨c0, c1, c2, c3⟩ := four13 (heap_alloc_new w (.cells #[.slice sa SL sc, .int .i64 lo, .int .i64 ne, .int .i64 ma] 33))
  have HC : Hid (Calls Tryz.prog 25 #[.agg #[.slice sa SL sc, .int .i64 lo, .int .i64 ne, .int .i64 ma]] (w.alloc (.cells #[.slice sa SL sc, .int .i64 lo, .int .i64 ne, .int .i64 ma] 33)) _) := right13_any _ ⟨ru, lo, ne, ma⟩ _ (HU.out.below HB0.out)
  go_enter Tryz.func17, Tryz.ntmps17
  go_wp2_with fail
  refine HC.out.mono ?_
  clear HC c0 c1 c2 c3
  rintro e w1 ⟨rfl, hb1⟩
  have HB1 : Hid (Below w.heap.size w w1) := HB0.out.trans (hb1.mono (by simp))
  have hz1 : w.heap.size < w1.heap.size := by have := hb1.size; simp at this; omega
  have HS1 : Hid (w1.heap[w.heap.size]? = some (.cells #[.slice sa SL sc, .int .i64 lo, .int .i64 ne, .int .i64 ma] 33)) := (hb1.block _ (by simp)).trans (heap_alloc_new _ _)
  clear hb1
  by_cases hok : okSt ⟨ru, lo, ne, ma⟩
  · rw [show decide (okSt ⟨ru, lo, ne, ma⟩) = true from decide_eq_true hok]
    have HOk : Hid (okSt ⟨ru, lo, ne, ma⟩) := hok
    clear hok
    by_cases h1 : n < 1
    · have HE : Hid (R = (1, s)) := by unfold Hid; rw [HR.out]; unfold mfSave; rw [if_neg (fun z => by have := isNo_iff.1 z.2; omega)]
      go_wp2_with fail
      go_ret
      exact ⟨O, by rw [HE.out]; rfl, by rw [HE.out]; exact HFs.out.below HB1.out, To.below HB1.out⟩
    · by_cases h2 : 1099511627776 < n
      · have HE : Hid (R = (1, s)) := by unfold Hid; rw [HR.out]; unfold mfSave; rw [if_neg (fun z => by have := isNo_iff.1 z.2; omega)]
        go_wp2_with fail
        go_ret
        exact ⟨O, by rw [HE.out]; rfl, by rw [HE.out]; exact HFs.out.below HB1.out, To.below HB1.out⟩
      · have HNo : Hid (isNo n = true) := isNo_iff.2 ⟨by omega, by omega⟩
        have d2 : decide ((1099511627776 : Int) < n) = false := decide_eq_false h2
        have HE : Hid (R = mfSv s n ⟨ru, lo, ne, ma⟩) := by unfold Hid; rw [HR.out]; unfold mfSave; rw [if_pos ⟨HOk.out, HNo.out⟩]
        have hW := write13_any (.slice none 0 0) (.slice sa SL sc) (edS ⟨ru, lo, ne, ma⟩) w1 ⟨jr_nil _, (HU.out.below HB1.out).r⟩ (edS_sm HOk.out)
        rw [(edS_wr HOk.out).1] at hW
        have HW : Hid (Calls Tryz.prog 29 #[.agg #[.slice none 0 0, .slice sa SL sc, .int .i64 lo, .int .i64 ne, .int .i64 ma]] w1 fun e w' => ∃ v, e = .returned (.tuple #[v, .int .i64 0]) ∧ Own w' w1.heap.size v (stB ⟨ru, lo, ne, ma⟩) ∧ Below w1.heap.size w1 w') := hW
        have HSB : Hid ((stB ⟨ru, lo, ne, ma⟩).length ≤ 65535) := stB_le HOk.out
        obtain ⟨SB, HSBe⟩ := hid_ex (stB ⟨ru, lo, ne, ma⟩)
        have HE' : Hid (R = sfThen (mfCre s (nmF man n) SB) fun t => sfThen (sfSyncDir t) fun u => mfRm u n) := by unfold Hid; rw [HE.out, HSBe.out]; rfl
        rw [← HSBe.out] at HW HSB
        obtain ⟨c0, c1, c2, c3⟩ := four13 HS1.out
        clear hW HR HE HSBe HOk
        go_wp2_with fail
        refine HW.out.mono ?_
        clear HW c0 c1 c2 c3 HS1
        rintro e w2 ⟨vb, rfl, hob, hb2⟩
        have HB2 : Hid (Below w.heap.size w w2) := HB1.out.trans (hb2.mono HB1.out.size)
        have HOb : Hid (Own w2 w1.heap.size vb SB) := hob
        obtain ⟨va, vc, hvb, _⟩ := hob.form
        subst hvb
        obtain ⟨VL, HVL⟩ : ∃ k, Hid (SB.length = k) := ⟨_, rfl⟩
        rw [HVL.out] at HOb ⊢
        clear hob hb2
        have HNm : Hid (Calls Tryz.prog 38 #[.string ⟨man.toArray⟩, .int .i64 n] w2 _) := name_any man (by decide) n w2 (HTb.out.imp id fun q => q.below HB2.out)
        unfold man at HNm
        have HNl : Hid ((nmF man n).length ≤ maxLen) := by have := man_len (n := n); unfold Hid maxLen; omega
        obtain ⟨NM, HNM⟩ := hid_ex (nmF man n)
        have e0 : nmF [109, 97, 110, 45] n = NM := HNM.out.symm
        rw [e0] at HNm
        rw [← HNM.out] at HE' HNl
        clear e0 HNM
        go_wp2_with fail
        refine HNm.out.mono ?_
        clear HNm
        rintro e w3 ⟨rfl, hb3⟩
        have HB3 : Hid (Below w.heap.size w w3) := HB2.out.trans (hb3.mono HB2.out.size)
        have HF3 : Hid (Fs w3 O (.pointer (some ⟨g0, 0, none⟩)) s) := HFs.out.below HB3.out
        have HRd : Hid (∀ w', Onl O w3 w' → Reads w' (.slice va VL vc) SB) := fun w' ho => Own.reads (row_new HOb.out (fun k k1 k2 => (ho.block k (Nat.lt_of_lt_of_le k2 hb3.size) (fun z => by have := HFs.out.lt k z; omega)).trans (hb3.block k k2)))
        have HCr : Hid (Calls Tryz.prog 44 #[.pointer (some ⟨g0, 0, none⟩), .string ⟨NM.toArray⟩, .slice va VL vc] w3 _) := mcreate_any HF3.out NM HNl.out _ SB HSB.out HRd.out (by have := HPn.out; omega)
        have HT3 : Hid (To w O w3 O) := To.below HB3.out
        have HTb3 : Hid (n < 100 ∨ Tb w3) := HTb.out.imp id fun q => q.below HB3.out
        clear hb3 HRd HOb HB2
        go_wp2_with fail
        refine HCr.out.mono ?_
        clear HCr HF3
        rintro e w4 ⟨O4, rfl, hf4, ht4⟩
        have HP4 : Hid ((mfCre s NM SB).2.pend.length ≤ 1000000) := by have h1 := pn_cre s NM SB; have h2 := HPn.out; unfold Hid; omega
        rcases hc : mfCre s NM SB with ⟨q1, q2⟩
        rw [hc] at hf4 HE' HP4
        simp only at hf4 HP4 ⊢
        have HF4 : Hid (Fs w4 O4 (.pointer (some ⟨g0, 0, none⟩)) q2) := hf4
        have HT4 : Hid (To w O w4 O4) := HT3.out.trans ht4
        clear hf4 ht4 hc HT3
        by_cases hz : q1 = 0
        · subst hz
          rw [sfThen_0] at HE'
          go_wp2_with fail
          refine HF4.out.syncDir.mono ?_
          rintro e w5 ⟨rfl, hf5, ho5⟩
          have HP5 : Hid ((sfSyncDir q2).2.pend.length ≤ 1000000) := by have h1 := pn_syncDir q2; have h2 := HP4.out; unfold Hid; omega
          rcases hc : sfSyncDir q2 with ⟨r1, r2⟩
          rw [hc] at hf5 HE' HP5
          simp only at hf5 HP5 ⊢
          obtain ⟨O5, HO5⟩ : ∃ O5, Hid (Fs w5 O5 (.pointer (some ⟨g0, 0, none⟩)) r2 ∧ To w O w5 O5) := ⟨_, hf5, HT4.out.fsr ho5⟩
          clear hf5 ho5 hc HF4 HT4 HP4
          by_cases hz : r1 = 0
          · subst hz
            rw [sfThen_0] at HE'
            have HRm : Hid (Calls Tryz.prog 46 #[.pointer (some ⟨g0, 0, none⟩), .string ⟨newN.toArray⟩] w5 _) := HO5.out.1.remove newN (by decide) (by have := HP5.out; omega)
            go_wp2_with fail
            refine HRm.out.mono ?_
            clear HRm
            rintro e w6 ⟨rfl, hf6, ho6⟩
            have HP6 : Hid ((sfRemove r2 newN).2.pend.length ≤ 1000001) := by have h1 := pn_remove r2 newN; have h2 := HP5.out; unfold Hid; omega
            have HE6 : Hid (R = if (sfRemove r2 newN).1 = 0 ∨ (sfRemove r2 newN).1 = 4 then mfPt (sfRemove r2 newN).2 n else sfRemove r2 newN) := HE'.out
            rcases hc : sfRemove r2 newN with ⟨t1, t2⟩
            rw [hc] at hf6 HE6 HP6
            simp only at hf6 HP6 HE6 ⊢
            obtain ⟨O6, HO6⟩ : ∃ O6, Hid (Fs w6 O6 (.pointer (some ⟨g0, 0, none⟩)) t2 ∧ To w O w6 O6) := ⟨_, hf6, HO5.out.2.fsr ho6⟩
            clear hf6 ho6 hc HO5 HP5 HE'
            by_cases hq : t1 = 0 ∨ t1 = 4
            · have HE7 : Hid (R = sfThen (mfCre t2 newN (sh n.toNat)) fun t => sfThen (sfRename t newN curN) sfSyncDir) := by unfold Hid; rw [HE6.out, if_pos hq]; rfl
              have HS := short13_any (.slice (some ⟨w6.heap.size, 0, none⟩) 1 1) [n] (by simp) (fun x hx => by simp only [List.mem_singleton] at hx; omega) (w6.alloc (.cells #[.int .i64 n] 2)) (jr_one w6 n)
              rw [shB_one] at HS
              have HS' : Hid (Calls Tryz.prog 47 #[.slice (some ⟨w6.heap.size, 0, none⟩) 1 1] (w6.alloc (.cells #[.int .i64 n] 2)) _) := HS
              clear HS HE6
              rcases hq with rfl | rfl
              · go_wp2_with fail
                refine HS'.out.mono ?_
                clear HS'
                rintro e w7 ⟨v7, rfl, ho7, hb7⟩
                have HB7 : Hid (Below w6.heap.size w6 w7) := ((Below.refl _ _).alloc (Nat.le_refl _) _).trans (hb7.mono (by simp))
                have HO7 : Hid (Own w7 (w6.heap.size + 1) v7 (sh n.toNat)) := by unfold Hid; simpa using ho7
                obtain ⟨a7, c7, hv7, _⟩ := ho7.form
                subst hv7
                obtain ⟨L7, HL7⟩ : ∃ k, Hid ((sh n.toNat).length = k) := ⟨_, rfl⟩
                rw [HL7.out] at HO7 ⊢
                have HF7 : Hid (Fs w7 O6 (.pointer (some ⟨g0, 0, none⟩)) t2) := HO6.out.1.below HB7.out
                have HT7 : Hid (To w O w7 O6) := HO6.out.2.then HB7.out
                have HRd : Hid (∀ w', Onl O6 w7 w' → Reads w' (.slice a7 L7 c7) (sh n.toNat)) := fun w' ho => Own.reads (row_new HO7.out (fun k k1 k2 => ho.block k k2 (fun z => by have := HO6.out.1.lt k z; omega)))
                have HCr : Hid (Calls Tryz.prog 44 #[.pointer (some ⟨g0, 0, none⟩), .string ⟨newN.toArray⟩, .slice a7 L7 c7] w7 _) := mcreate_any HF7.out newN (by decide) _ (sh n.toNat) (by have := sh_len10 (n := n.toNat) (by omega); omega) HRd.out (by have := HP6.out; omega)
                clear ho7 hb7 HRd HO7 HB7
                go_wp2_with fail
                refine HCr.out.mono ?_
                clear HCr HF7
                rintro e w8 ⟨O8, rfl, hf8, ht8⟩
                have HP8 : Hid ((mfCre t2 newN (sh n.toNat)).2.pend.length ≤ 1000002) := by have h1 := pn_cre t2 newN (sh n.toNat); have h2 := HP6.out; unfold Hid; omega
                rcases hc : mfCre t2 newN (sh n.toNat) with ⟨x1, x2⟩
                rw [hc] at hf8 HE7 HP8
                simp only at hf8 HP8 ⊢
                have HO8 : Hid (Fs w8 O8 (.pointer (some ⟨g0, 0, none⟩)) x2 ∧ To w O w8 O8) := ⟨hf8, HT7.out.trans ht8⟩
                clear hf8 ht8 hc HT7 HO6 HP6
                by_cases hz : x1 = 0
                · subst hz
                  rw [sfThen_0] at HE7
                  have HRn : Hid (Calls Tryz.prog 48 #[.pointer (some ⟨g0, 0, none⟩), .string ⟨newN.toArray⟩, .string ⟨curN.toArray⟩] w8 _) := HO8.out.1.rename newN curN (by decide) (by decide) (by have := HP8.out; omega)
                  go_wp2_with fail
                  refine HRn.out.mono ?_
                  clear HRn
                  rintro e w9 ⟨rfl, hf9, ho9⟩
                  rcases hc : sfRename x2 newN curN with ⟨y1, y2⟩
                  rw [hc] at hf9 HE7
                  simp only at hf9 ⊢
                  obtain ⟨O9, HO9⟩ : ∃ O9, Hid (Fs w9 O9 (.pointer (some ⟨g0, 0, none⟩)) y2 ∧ To w O w9 O9) := ⟨_, hf9, HO8.out.2.fsr ho9⟩
                  clear hf9 ho9 hc HO8 HP8
                  by_cases hz : y1 = 0
                  · subst hz
                    rw [sfThen_0] at HE7
                    go_wp2_with fail
                    refine HO9.out.1.syncDir.mono ?_
                    rintro e wa ⟨rfl, hfa, hoa⟩
                    have HOa : Hid (Fs wa _ (.pointer (some ⟨g0, 0, none⟩)) _ ∧ To w O wa _) := ⟨hfa, HO9.out.2.fsr hoa⟩
                    rw [← HE7.out] at HOa ⊢
                    clear hfa hoa
                    go_wp2_with fail
                    go_ret
                    exact ⟨_, rfl, HOa.out.1, HOa.out.2⟩
                  · have hz' : (y1 != 0) = true := by simpa using hz
                    rw [sfThen_no hz] at HE7
                    go_wp2_with fail
                    go_ret
                    exact ⟨O9, by rw [HE7.out]; rfl, by rw [HE7.out]; exact HO9.out.1, HO9.out.2⟩
                · have hz' : (x1 != 0) = true := by simpa using hz
                  rw [sfThen_no hz] at HE7
                  go_wp2_with fail
                  go_ret
                  exact ⟨O8, by rw [HE7.out]; rfl, by rw [HE7.out]; exact HO8.out.1, HO8.out.2⟩
              · go_wp2_with fail
                refine HS'.out.mono ?_
                clear HS'
                rintro e w7 ⟨v7, rfl, ho7, hb7⟩
                have HB7 : Hid (Below w6.heap.size w6 w7) := ((Below.refl _ _).alloc (Nat.le_refl _) _).trans (hb7.mono (by simp))
                have HO7 : Hid (Own w7 (w6.heap.size + 1) v7 (sh n.toNat)) := by unfold Hid; simpa using ho7
                obtain ⟨a7, c7, hv7, _⟩ := ho7.form
                subst hv7
                obtain ⟨L7, HL7⟩ : ∃ k, Hid ((sh n.toNat).length = k) := ⟨_, rfl⟩
                rw [HL7.out] at HO7 ⊢
                have HF7 : Hid (Fs w7 O6 (.pointer (some ⟨g0, 0, none⟩)) t2) := HO6.out.1.below HB7.out
                have HT7 : Hid (To w O w7 O6) := HO6.out.2.then HB7.out
                have HRd : Hid (∀ w', Onl O6 w7 w' → Reads w' (.slice a7 L7 c7) (sh n.toNat)) := fun w' ho => Own.reads (row_new HO7.out (fun k k1 k2 => ho.block k k2 (fun z => by have := HO6.out.1.lt k z; omega)))
                have HCr : Hid (Calls Tryz.prog 44 #[.pointer (some ⟨g0, 0, none⟩), .string ⟨newN.toArray⟩, .slice a7 L7 c7] w7 _) := mcreate_any HF7.out newN (by decide) _ (sh n.toNat) (by have := sh_len10 (n := n.toNat) (by omega); omega) HRd.out (by have := HP6.out; omega)
                clear ho7 hb7 HRd HO7 HB7
                go_wp2_with fail
                refine HCr.out.mono ?_
                clear HCr HF7
                rintro e w8 ⟨O8, rfl, hf8, ht8⟩
                have HP8 : Hid ((mfCre t2 newN (sh n.toNat)).2.pend.length ≤ 1000002) := by have h1 := pn_cre t2 newN (sh n.toNat); have h2 := HP6.out; unfold Hid; omega
                rcases hc : mfCre t2 newN (sh n.toNat) with ⟨x1, x2⟩
                rw [hc] at hf8 HE7 HP8
                simp only at hf8 HP8 ⊢
                have HO8 : Hid (Fs w8 O8 (.pointer (some ⟨g0, 0, none⟩)) x2 ∧ To w O w8 O8) := ⟨hf8, HT7.out.trans ht8⟩
                clear hf8 ht8 hc HT7 HO6 HP6
                by_cases hz : x1 = 0
                · subst hz
                  rw [sfThen_0] at HE7
                  have HRn : Hid (Calls Tryz.prog 48 #[.pointer (some ⟨g0, 0, none⟩), .string ⟨newN.toArray⟩, .string ⟨curN.toArray⟩] w8 _) := HO8.out.1.rename newN curN (by decide) (by decide) (by have := HP8.out; omega)
                  go_wp2_with fail
                  refine HRn.out.mono ?_
                  clear HRn
                  rintro e w9 ⟨rfl, hf9, ho9⟩
                  rcases hc : sfRename x2 newN curN with ⟨y1, y2⟩
                  rw [hc] at hf9 HE7
                  simp only at hf9 ⊢
                  obtain ⟨O9, HO9⟩ : ∃ O9, Hid (Fs w9 O9 (.pointer (some ⟨g0, 0, none⟩)) y2 ∧ To w O w9 O9) := ⟨_, hf9, HO8.out.2.fsr ho9⟩
                  clear hf9 ho9 hc HO8 HP8
                  by_cases hz : y1 = 0
                  · subst hz
                    rw [sfThen_0] at HE7
                    go_wp2_with fail
                    refine HO9.out.1.syncDir.mono ?_
                    rintro e wa ⟨rfl, hfa, hoa⟩
                    have HOa : Hid (Fs wa _ (.pointer (some ⟨g0, 0, none⟩)) _ ∧ To w O wa _) := ⟨hfa, HO9.out.2.fsr hoa⟩
                    rw [← HE7.out] at HOa ⊢
                    clear hfa hoa
                    go_wp2_with fail
                    go_ret
                    exact ⟨_, rfl, HOa.out.1, HOa.out.2⟩
                  · have hz' : (y1 != 0) = true := by simpa using hz
                    rw [sfThen_no hz] at HE7
                    go_wp2_with fail
                    go_ret
                    exact ⟨O9, by rw [HE7.out]; rfl, by rw [HE7.out]; exact HO9.out.1, HO9.out.2⟩
                · have hz' : (x1 != 0) = true := by simpa using hz
                  rw [sfThen_no hz] at HE7
                  go_wp2_with fail
                  go_ret
                  exact ⟨O8, by rw [HE7.out]; rfl, by rw [HE7.out]; exact HO8.out.1, HO8.out.2⟩
            · have HE7 : Hid (R = (t1, t2)) := by unfold Hid; rw [HE6.out, if_neg hq]
              have hq1 : (t1 != 0) = true := by simp; omega
              have hq2 : (t1 != 4) = true := by simp; omega
              go_wp2_with fail
              go_ret
              exact ⟨O6, by rw [HE7.out]; rfl, by rw [HE7.out]; exact HO6.out.1, HO6.out.2⟩
          · have hz' : (r1 != 0) = true := by simpa using hz
            rw [sfThen_no hz] at HE'
            go_wp2_with fail
            go_ret
            exact ⟨O5, by rw [HE'.out]; rfl, by rw [HE'.out]; exact HO5.out.1, HO5.out.2⟩
        · have hz' : (q1 != 0) = true := by simpa using hz
          rw [sfThen_no hz] at HE'
          go_wp2_with fail
          go_ret
          exact ⟨O4, by rw [HE'.out]; rfl, by rw [HE'.out]; exact HF4.out, HT4.out⟩
  · rw [show decide (okSt ⟨ru, lo, ne, ma⟩) = false from decide_eq_false hok]
    have HE : Hid (R = (1, s)) := by unfold Hid; rw [HR.out]; unfold mfSave; rw [if_neg (fun z => hok z.1)]
    go_wp2_with fail
    go_ret
    exact ⟨O, by rw [HE.out]; rfl, by rw [HE.out]; exact HFs.out.below HB1.out, To.below HB1.out⟩
set_option maxRecDepth 100000 in
set_option maxHeartbeats 4000000 in
theorem mappend_any {w : World} {O : Nat → Prop} {p : Value} {s : SfS} (h : Fs w O p s) (n : Int) (dv av : Value) (x : Ed) (hE : EdR w dv av x) (hx : smI x) (hT : n < 100 ∨ Tb w) :
    Calls Tryz.prog 22 #[p, .int .i64 n, .agg #[dv, av, .int .i64 x.lo, .int .i64 x.ne, .int .i64 x.ma]] w (AdPost w O p (mfApp s n x)) := by
  obtain ⟨g0, rfl⟩ := h.ptr
  obtain ⟨da, dc, rfl, _⟩ := hE.d.form
  obtain ⟨aa, ac, rfl, _⟩ := hE.a.form
  have HFs : Hid (Fs w O (.pointer (some ⟨g0, 0, none⟩)) s) := h
  have HTb : Hid (n < 100 ∨ Tb w) := hT
  obtain ⟨DL, HDL⟩ : ∃ n, Hid (x.dr.length = n) := ⟨_, rfl⟩
  obtain ⟨AL, HAL⟩ : ∃ n, Hid (x.ad.length = n) := ⟨_, rfl⟩
  rw [HDL.out, HAL.out] at hE ⊢
  obtain ⟨R, HR⟩ := hid_ex (mfApp s n x)
  rw [← HR.out]
  obtain ⟨dr, ad, lo, ne, ma⟩ := x
  simp only at *
  have HB0 : Hid (Below w.heap.size w (w.alloc (.cells #[.slice da DL dc, .slice aa AL ac, .int .i64 lo, .int .i64 ne, .int .i64 ma] 52))) := (Below.refl _ _).alloc (Nat.le_refl _) _
  obtain ⟨c0, c1, c2, c3, c4⟩ := five (heap_alloc_new w (.cells #[.slice da DL dc, .slice aa AL ac, .int .i64 lo, .int .i64 ne, .int .i64 ma] 52))
  have hW := write13_any _ _ ⟨dr, ad, lo, ne, ma⟩ (w.alloc (.cells #[.slice da DL dc, .slice aa AL ac, .int .i64 lo, .int .i64 ne, .int .i64 ma] 52)) (hE.below HB0.out) hx
  obtain ⟨EE, HEE⟩ := hid_ex (edE (edW ⟨dr, ad, lo, ne, ma⟩))
  obtain ⟨SB, HSB⟩ := hid_ex ((edW ⟨dr, ad, lo, ne, ma⟩).getD [])
  rw [← HEE.out, ← HSB.out] at hW
  have HW : Hid (Calls Tryz.prog 29 #[.agg #[.slice da DL dc, .slice aa AL ac, .int .i64 lo, .int .i64 ne, .int .i64 ma]] (w.alloc (.cells #[.slice da DL dc, .slice aa AL ac, .int .i64 lo, .int .i64 ne, .int .i64 ma] 52)) _) := hW
  have HSx : Hid (smI ⟨dr, ad, lo, ne, ma⟩) := hx
  clear h hT hE hx hW
  go_enter Tryz.func22, Tryz.ntmps22
  go_wp2_with fail
  refine HW.out.mono ?_
  clear HW c0 c1 c2 c3 c4
  rintro e w2 ⟨vb, rfl, hob, hb2⟩
  have HB2 : Hid (Below w.heap.size w w2) := HB0.out.trans (hb2.mono (by simp))
  have HOb : Hid (Own w2 (w.heap.size + 1) vb SB) := by unfold Hid; simpa using hob
  obtain ⟨va, vc, hvb, _⟩ := hob.form
  subst hvb
  obtain ⟨VL, HVL⟩ : ∃ k, Hid (SB.length = k) := ⟨_, rfl⟩
  rw [HVL.out] at HOb ⊢
  clear hob hb2
  cases hw : edW ⟨dr, ad, lo, ne, ma⟩ with
  | none =>
    have hE : EE = 100 := by rw [HEE.out, hw]; rfl
    have HQ : Hid (R = (100, s)) := by unfold Hid; rw [HR.out]; unfold mfApp; rw [hw]
    subst hE
    clear HEE HSB hw
    go_wp2_with fail
    go_ret
    exact ⟨O, by rw [HQ.out]; rfl, by rw [HQ.out]; exact HFs.out.below HB2.out, To.below HB2.out⟩
  | some bb =>
    have hE : EE = 0 := by rw [HEE.out, hw]; rfl
    have hSB : SB = bb := by rw [HSB.out, hw]; rfl
    subst hSB
    have HQ : Hid (R = mfExt s (nmF man n) SB) := by unfold Hid; rw [HR.out]; unfold mfApp; rw [hw]
    have HL : Hid (SB.length ≤ 65535) := edW_len hw HSx.out
    subst hE
    clear HEE HSB hw HR
    have HNm : Hid (Calls Tryz.prog 38 #[.string ⟨man.toArray⟩, .int .i64 n] w2 _) := name_any man (by decide) n w2 (HTb.out.imp id fun q => q.below HB2.out)
    unfold man at HNm
    have HNl : Hid ((nmF man n).length ≤ maxLen) := by have := man_len (n := n); unfold Hid maxLen; omega
    obtain ⟨NM, HNM⟩ := hid_ex (nmF man n)
    have e0 : nmF [109, 97, 110, 45] n = NM := HNM.out.symm
    rw [e0] at HNm
    rw [← HNM.out] at HQ HNl
    clear e0 HNM
    go_wp2_with fail
    refine HNm.out.mono ?_
    clear HNm
    rintro e w3 ⟨rfl, hb3⟩
    have HB3 : Hid (Below w.heap.size w w3) := HB2.out.trans (hb3.mono HB2.out.size)
    have HF3 : Hid (Fs w3 O (.pointer (some ⟨g0, 0, none⟩)) s) := HFs.out.below HB3.out
    have HRd : Hid (Reads w3 (.slice va VL vc) SB) := HOb.out.reads.below hb3
    have HX : Hid (Calls Tryz.prog 55 #[.pointer (some ⟨g0, 0, none⟩), .string ⟨NM.toArray⟩, .slice va VL vc] w3 _) := extend_any HF3.out NM HNl.out _ SB HL.out HRd.out
    clear hb3 HRd HF3
    go_wp2_with fail
    refine HX.out.mono ?_
    clear HX
    rintro e w4 ⟨O4, rfl, hf4, ht4⟩
    have HO4 : Hid (Fs w4 O4 (.pointer (some ⟨g0, 0, none⟩)) _ ∧ To w O w4 O4) := ⟨hf4, (To.below HB3.out).trans ht4⟩
    rw [← HQ.out] at HO4 ⊢
    clear hf4 ht4
    go_wp2_with fail
    go_ret
    exact ⟨O4, rfl, HO4.out.1, HO4.out.2⟩
end Go.Proofs.YtilbffgpniomcaaGreatDoor
