/- TN6 TT8 TT9 TTA, joined. -/
import Derived.Test.YtlpjdfgknmfmnaaTF7
import Derived.Test.YtlpjdfgknmfmnaaTF13
import Derived.Test.YtlpjdfgknmfmnaaTF25
import Derived.Test.YtlpjdfgknmfmnaaTF27
import Derived.Test.YtlpjdfgknmfmnaaTF30
/- table: Open of an empty table; alive. -/
namespace Go.Proofs.Ytlpjdfgknmfmnaa
open Go.RowKit

theorem row_formS {w : World} {base n size : Nat} {e : TypeId} {v : Value} {xs : List Value} (h : w.ownsRow base e size v n xs) : ∃ a c, v = .slice a n c := by
  rcases h.2 with ⟨h1, h2⟩ | ⟨g, cap, cur, h1, _⟩
  · exact ⟨none, 0, by rw [h1, h2]⟩
  · exact ⟨_, cap, h1⟩
/-- A slice of slices of bytes. -/
def DsR (w : World) (v : Value) (ds : List (List UInt8)) : Prop :=
  ∃ a cap, v = .slice a ds.length cap ∧ ds.length ≤ maxLen ∧ ∀ j (hj : j < ds.length), ∃ g u, a = some ⟨g, 0, none⟩ ∧ g < w.heap.size ∧ w.cell? ⟨g, j, none⟩ = some u ∧ Reads w u ds[j]
theorem DsR.form {w : World} {v : Value} {ds : List (List UInt8)} (h : DsR w v ds) : ∃ a cap, v = .slice a ds.length cap ∧ ds.length ≤ maxLen := by
  obtain ⟨a, cap, h1, h2, _⟩ := h
  exact ⟨a, cap, h1, h2⟩
theorem DsR.at {w : World} {a : Option Addr} {n cap : Nat} {ds : List (List UInt8)} (h : DsR w (.slice a n cap) ds) {j : Nat} (hj : j < ds.length) {d : List UInt8} (hd : d = ds[j]) : ∃ g u, a = some ⟨g, 0, none⟩ ∧ g < w.heap.size ∧ w.cell? ⟨g, j, none⟩ = some u ∧ Reads w u d := by
  subst hd
  obtain ⟨a', cap', e, _, h3⟩ := h
  cases e
  exact h3 j hj
theorem dsr_of {w : World} {base : Nat} {vl : Value} {xs : List Fr} (h : w.ownsRow base 25 1 vl xs.length (xs.map Fr.v)) (hx : ∀ x ∈ xs, Own w base x.v x.D) : DsR w vl (xs.map Fr.D) := by
  have h' : w.ownsRow base 25 1 vl (xs.map Fr.v).length (xs.map Fr.v) := by rw [List.length_map]; exact h
  rcases Nat.eq_zero_or_pos xs.length with h0 | h0
  · obtain ⟨a, c, hv⟩ := row_formS h
    have : xs = [] := List.length_eq_zero_iff.1 h0
    subst this
    exact ⟨a, c, hv, Nat.zero_le _, fun j hj => by simp at hj⟩
  · obtain ⟨g, cap, hv, _, hg, hc⟩ := row_at h' (by simpa using h0)
    have hm : xs.length ≤ maxLen := by
      rcases h.2 with ⟨_, q⟩ | ⟨g', cap', cur, _, _, _, q1, q2, _⟩
      · rw [q]; exact Nat.zero_le _
      · exact Nat.le_trans q1 q2
    refine ⟨_, cap, by simpa using hv, by simpa using hm, fun j hj => ?_⟩
    simp only [List.length_map] at hj
    refine ⟨g, xs[j].v, rfl, hg, by have := hc j (by simpa using hj); simpa using this, ?_⟩
    have := (hx xs[j] (List.getElem_mem hj)).reads
    simpa using this
theorem l3 {α : Type} : ∀ {l : List α}, l.length = 3 → ∃ a b c, l = [a, b, c]
  | [a, b, c], _ => ⟨a, b, c, rfl⟩
/-- An empty table's bytes. -/
def e42 : List UInt8 := frm [] ++ frm [6, 0] ++ frm [0, 0, 0, 0, 0, 0, 0, 0, 0, 0, 0, 0, 0, 0, 0, 0]
theorem e42_len : e42.length = 42 := by unfold e42; rw [List.length_append, List.length_append, frm_len, frm_len, frm_len]; rfl
theorem e42_all : alF (e42.length + 1) e42 = [([], 8), ([6, 0], 10), ([0, 0, 0, 0, 0, 0, 0, 0, 0, 0, 0, 0, 0, 0, 0, 0], 24)] := by
  rw [e42_len]
  unfold e42
  rw [List.append_assoc, alF_frm _ _ _ (by simp), alF_frm _ _ _ (by simp)]
  have := alF_frm 40 [0, 0, 0, 0, 0, 0, 0, 0, 0, 0, 0, 0, 0, 0, 0, 0] [] (by simp)
  rw [List.append_nil] at this
  rw [this]
  have e3 : alF 40 [] = [] := by rw [alF, if_neg (by simp [nxF])]
  rw [e3]
  rfl
theorem first_zero (a0 a : Option Addr) (c0 n c : Nat) (m : Int) (w : World) : Calls Try.prog 33 #[.slice a0 0 c0, .slice a n c, .int .i64 m] w fun e w' => e = .returned (.slice none 0 0) ∧ Below w.heap.size w w' := by
  go_enter Try.func33, Try.ntmps33
  go_wp2_with fail
  go_loopw [7, 18] (fun o i wr => wr = w ∧ o = .slice none 0 0 ∧ i = .int .i64 0) (fun _ _ _ => 0)
  case atStart => exact ⟨rfl, rfl, rfl⟩
  case round =>
    obtain ⟨rfl, rfl, rfl⟩ := hrel
    go_wp2_with fail
    go_ret
    exact ⟨rfl, Below.refl _ _⟩
theorem mkP : ∀ w, (Instr.makeSlice 71 (.int .i64 0) (.int .i64 0)).run Try.prog w = .ok (.slice (some ⟨w.heap.size, 0, none⟩) 0 0) (w.alloc (.cells #[] 73)) := fun _ => by kernel_rfl
/-- An open table that has nothing. -/
def TE (w : World) (B : Nat) (fv : Value) : Prop := (∃ a c, w.heap[B]? = some (.cells #[.slice a 0 c, fv, .int .i64 0] 84)) ∧ ∃ base, Fil w base fv 6 [0]
theorem TE.below {w w' : World} {B : Nat} {fv : Value} (h : TE w B fv) (hb : Below w.heap.size w w') : TE w' B fv := by
  obtain ⟨⟨a, c, h1⟩, base, h2⟩ := h
  exact ⟨⟨a, c, (hb.block _ (Array.getElem?_eq_some_iff.1 h1).1).trans h1⟩, base, h2.below hb⟩
set_option maxRecDepth 100000 in
set_option maxHeartbeats 2000000 in
theorem topen_nil (w : World) : Calls Try.prog 10 #[.slice none 0 0] w fun e w' => e = .returned (.tuple #[.pointer none, .int .i64 70]) ∧ Below w.heap.size w w' := by
  have hA := all_any (.slice none 0 0) [] (by simp) w (.inl ⟨rfl, none, 0, rfl, fun _ => rfl⟩)
  rw [show alF (([] : List UInt8).length + 1) [] = [] from by rw [alF, if_neg (by simp [nxF])]] at hA
  have HA : Hid (Calls Try.prog 32 #[.slice none 0 0] w _) := hA
  clear hA
  go_enter Try.func10, Try.ntmps10
  go_wp2_with fail
  refine HA.out.mono ?_
  rintro e w1 ⟨vl, xs, rfl, hxs, hrow, hown, hb1⟩
  obtain rfl : xs = [] := by cases xs with
    | nil => rfl
    | cons x xs => simp at hxs
  obtain ⟨a, c, hv⟩ := row_formS hrow
  subst hv
  have HB1 : Hid (Below w.heap.size w w1) := hb1
  clear hrow hown hxs hb1 HA
  simp only [List.length_nil, ksum, List.map_nil, List.sum_nil]
  go_wp2_with fail
  go_ret2
  exact ⟨rfl, HB1.out⟩
set_option maxRecDepth 100000 in
set_option maxHeartbeats 4000000 in
theorem topen_e42 (v : Value) (w : World) (hR : Reads w v e42) : Calls Try.prog 10 #[v] w fun e w' => ∃ B fv, e = .returned (.tuple #[.pointer (some ⟨B, 0, none⟩), .int .i64 0]) ∧ TE w' B fv ∧ Below w.heap.size w w' := by
  obtain ⟨ba, bc9, rfl, _⟩ := hR.form
  have hA := all_any _ e42 (by rw [e42_len]; decide) w hR
  rw [e42_all, e42_len] at hA
  have HR : Hid (Reads w (.slice ba 42 bc9) e42) := by have := hR; rw [e42_len] at this; exact this
  have HA : Hid (Calls Try.prog 32 #[.slice ba 42 bc9] w _) := hA
  rw [e42_len]
  clear hA hR
  go_enter Try.func10, Try.ntmps10
  go_wp2_with fail
  refine HA.out.mono ?_
  rintro e w1 ⟨vl, xs, rfl, hxs, hrow, hown, hb1⟩
  have hD := dsr_of hrow hown
  have hl3 : xs.length = 3 := by have := congrArg List.length hxs; simpa using this
  obtain ⟨x0, x1, x2, rfl⟩ := l3 hl3
  simp only [List.map_cons, List.map_nil, List.cons.injEq, and_true, Fr.p, Prod.mk.injEq] at hxs
  obtain ⟨⟨d0, _⟩, ⟨d1, _⟩, _⟩ := hxs
  simp only [List.map_cons, List.map_nil] at hD
  rw [d0, d1] at hD
  obtain ⟨fa, fc, hv, _⟩ := hD.form
  subst hv
  obtain ⟨g, u0, hfa, hg, hc0, hr0⟩ := hD.at (j := 0) (by simp) rfl
  obtain ⟨g', u1, hfa', _, hc1, hr1⟩ := hD.at (j := 1) (by simp) rfl
  subst hfa
  simp only [Option.some.injEq, Addr.mk.injEq, and_true] at hfa'
  subst hfa'
  have HB1 : Hid (Below w.heap.size w w1) := hb1
  have HC : Hid (g < w1.heap.size ∧ w1.cell? ⟨g, 0, none⟩ = some u0 ∧ w1.cell? ⟨g, 1, none⟩ = some u1) := ⟨hg, hc0, hc1⟩
  have HR0 : Hid (Reads w1 u0 []) := hr0
  have HR1 : Hid (Reads w1 u1 [6, 0]) := hr1
  obtain ⟨ua, uc, hu0, _⟩ := hr0.form
  obtain ⟨va, vc, hu1, _⟩ := hr1.form
  subst hu0
  subst hu1
  obtain ⟨KS, HKS⟩ := hid_ex (ksum [(([] : List UInt8), 8), ([6, 0], 10), ([0, 0, 0, 0, 0, 0, 0, 0, 0, 0, 0, 0, 0, 0, 0, 0], 24)])
  rw [← HKS.out]
  simp only [List.length_cons, List.length_nil, Nat.reduceAdd]
  clear hrow hown hb1 hD hg hc0 hc1 hr0 hr1 d0 d1 HA
  have hmk := mkP
  go_wp2_with fail
  obtain ⟨w2, HW2⟩ := hid_ex (w1.alloc (.cells #[] 73))
  have hb2 : Below w1.heap.size w1 w2 := by rw [HW2.out]; exact (Below.refl _ _).alloc (Nat.le_refl _) _
  have HB2 : Hid (Below w1.heap.size w1 w2) := hb2
  rw [← HW2.out]
  clear HW2 hb2
  go_loopw [32] (fun i wr => wr = w2 ∧ i = .int .i64 0) (fun _ _ => 0)
  case atStart => exact ⟨rfl, rfl⟩
  case round =>
    obtain ⟨rfl, rfl⟩ := hrel
    go_wp2_with fail
    refine (first_zero _ _ _ _ _ _ _).mono ?_
    rintro e w3 ⟨rfl, hb3⟩
    have HB3 : Hid (Below w1.heap.size w1 w3) := HB2.out.trans (hb3.mono HB2.out.size)
    clear hb3
    go_wp2_with fail
    refine (twrite_nil _).mono ?_
    rintro e w4 ⟨v4, rfl, ho4, hb4⟩
    have HB4 : Hid (Below w1.heap.size w1 w4) := HB3.out.trans (hb4.mono HB3.out.size)
    have hEq := equal_any v4 (.slice ba 42 bc9) e42 e42 w4 ho4.reads (HR.out.below (HB1.out.trans (HB4.out.mono HB1.out.size)))
    obtain ⟨a4, c4, hv4, _⟩ := ho4.form
    subst hv4
    have e4 : (frm [] ++ frm [6, 0] ++ frm [0, 0, 0, 0, 0, 0, 0, 0, 0, 0, 0, 0, 0, 0, 0, 0]).length = 42 := e42_len
    rw [e4] at hEq ⊢
    rw [show decide (e42 = e42) = true from decide_eq_true rfl] at hEq
    have HEq : Hid (Calls Try.prog 34 #[.slice a4 42 c4, .slice ba 42 bc9] w4 _) := hEq
    clear ho4 hb4 hEq e4
    go_wp2_with fail
    refine HEq.out.mono ?_
    clear HEq
    rintro e w5 ⟨rfl, rfl⟩
    have hq0 : w5.cell? ⟨g, 0, none⟩ = some (.slice ua ([] : List UInt8).length uc) := (HB4.out.cell HC.out.1).trans HC.out.2.1
    have hq1 : w5.cell? ⟨g, 1, none⟩ = some (.slice va [6, (0 : UInt8)].length vc) := (HB4.out.cell HC.out.1).trans HC.out.2.2
    simp only [List.length_cons, List.length_nil, Nat.reduceAdd] at hq0 hq1
    have hRd := read_any (.slice ua 0 uc) [] (by simp) w5 (HR0.out.below HB4.out)
    have HRd : Hid (Calls Try.prog 35 #[.slice ua 0 uc] w5 _) := hRd
    clear hRd
    go_wp2_with fail
    refine HRd.out.mono ?_
    clear HRd
    rintro e w6 ⟨hb6, hrd⟩
    rw [show rdB [] = some [] from by decide] at hrd
    obtain ⟨u6, xs6, rfl, hx6, ho6⟩ := hrd
    obtain rfl : xs6 = [] := by cases xs6 with
      | nil => rfl
      | cons x xs => simp at hx6
    obtain ⟨a6, c6, hu6⟩ := row_formS ho6.1
    subst hu6
    have HB6 : Hid (Below w1.heap.size w1 w6) := HB4.out.trans (hb6.mono HB4.out.size)
    have hq6 : w6.cell? ⟨g, 1, none⟩ = some (.slice va 2 vc) := by
      have := (HB6.out.cell HC.out.1).trans HC.out.2.2
      simpa using this
    clear ho6 hx6 hb6 hq0 hq1
    simp only [List.length_nil]
    go_wp2_with fail
    go_loopw [69] (fun i wr => wr = w6 ∧ i = .int .i64 0) (fun _ _ => 0)
    case atStart => exact ⟨rfl, rfl⟩
    case round =>
      obtain ⟨rfl, rfl⟩ := hrel
      have hFr := read_ok (.slice va 2 vc) [6, 0] wr (HR1.out.below HB6.out) (by unfold rdOk; decide)
      have HFr : Hid (Calls Try.prog 36 #[.slice va 2 vc] wr _) := hFr
      clear hFr
      go_wp2_with fail
      refine HFr.out.mono ?_
      clear HFr
      rintro e w7 ⟨v7, rfl, hfil, hb7⟩
      have HB7 : Hid (Below w.heap.size w w7) := HB1.out.trans ((HB6.out.trans (hb7.mono HB6.out.size)).mono HB1.out.size)
      obtain ⟨B7, hv7⟩ := hfil.ptr
      subst hv7
      have HFil : Hid (Fil w7 wr.heap.size (.pointer (some ⟨B7, 0, none⟩)) 6 [0]) := hfil
      clear hfil hb7 hq6
      go_wp2_with fail
      go_ret2
      exact ⟨w7.heap.size, _, rfl, ⟨⟨_, _, heap_alloc_new _ _⟩, _, HFil.out.below ((Below.refl _ _).alloc (Nat.le_refl _) _)⟩, HB7.out.alloc HB7.out.size _⟩
/-- alive. -/
theorem tlen_te {w : World} {B : Nat} {fv : Value} (h : TE w B fv) : Calls Try.prog 13 #[.pointer (some ⟨B, 0, none⟩)] w fun e w' => e = .returned (.int .i64 0) ∧ w' = w := by
  obtain ⟨⟨a, c, hB⟩, _⟩ := h
  have z2 : w.cell? ⟨B, 2, none⟩ = some (.int .i64 0) := by simp [World.cell?, hB]
  go_enter Try.func13, Try.ntmps13
  go_wp2_with fail
  go_ret
  exact ⟨rfl, rfl⟩
theorem tmay_te {w : World} {B : Nat} {fv : Value} (h : TE w B fv) (kv : Value) (key : List UInt8) (hR : Reads w kv key) (hk : myF [0] (plc key 8 6) = false) : Calls Try.prog 14 #[.pointer (some ⟨B, 0, none⟩), kv] w fun e w' => e = .returned (.bool false) ∧ Below w.heap.size w w' := by
  obtain ⟨⟨a, c, hB⟩, base, hF⟩ := h
  have hM := may_any fv kv 6 [0] key w base hF hR
  rw [show 8 * ([0] : List UInt8).length = 8 from rfl, hk] at hM
  obtain ⟨B2, hv⟩ := hF.ptr
  subst hv
  have z1 : w.cell? ⟨B, 1, none⟩ = some (.pointer (some ⟨B2, 0, none⟩)) := by simp [World.cell?, hB]
  obtain ⟨ka, kc, rfl, _⟩ := hR.form
  have HM : Hid (Calls Try.prog 47 #[.pointer (some ⟨B2, 0, none⟩), .slice ka key.length kc] w _) := hM
  clear hM hF hR hB
  go_enter Try.func14, Try.ntmps14
  go_wp2_with fail
  refine HM.out.mono ?_
  rintro e w1 ⟨rfl, hb⟩
  go_wp2_with fail
  go_ret
  exact ⟨rfl, hb⟩
theorem my_a : myF [0] (plc [97] 8 6) = false := by decide
end Go.Proofs.Ytlpjdfgknmfmnaa

/- table: Open of any bytes. -/
namespace Go.Proofs.Ytlpjdfgknmfmnaa
open Go.RowKit

/-- Pieces in the making. -/
def TpC (w : World) (lo g n : Nat) (f r : Nat → List UInt8) : Prop := ∃ cs : Array Value, w.heap[g]? = some (.cells cs 73) ∧ cs.size = n * 2 ∧ ∀ j, j < n → ∃ kv vv, cs[j * 2]? = some kv ∧ cs[j * 2 + 1]? = some vv ∧ Own w lo kv (f j) ∧ Own w lo vv (r j)
theorem TpC.keep {w W : World} {lo g n : Nat} {f r : Nat → List UInt8} (h : TpC w lo g n f r) (hk : Kc lo w W) : TpC W lo g n f r := by
  obtain ⟨cs, h1, h2, h3⟩ := h
  refine ⟨cs, hk.c _ _ _ _ h1, h2, fun j hj => ?_⟩
  obtain ⟨kv, vv, g1, g2, g3, g4⟩ := h3 j hj
  exact ⟨kv, vv, g1, g2, g3.kc hk, g4.kc hk⟩
theorem TpC.below {w W : World} {lo g n : Nat} {f r : Nat → List UInt8} (h : TpC w lo g n f r) (hb : Below w.heap.size w W) (hl : lo ≤ w.heap.size) : TpC W lo g n f r := h.keep (Kc.of_below hb hl)
theorem own_setg {w : World} {base g o : Nat} {cs : Array Value} {T : TypeId} {v u : Value} {l : List UInt8} (h : Own w base v l) (hg : w.heap[g]? = some (.cells cs T)) (hT : T ≠ 5) : Own (w.setCell ⟨g, o, none⟩ u) base v l := by
  obtain ⟨h1, h2⟩ := h
  refine ⟨h1, ?_⟩
  rcases h2 with h2 | ⟨g', cap, cur', hv, hg', hw, r⟩
  · exact .inl h2
  · have hne : g' ≠ g := fun e => by subst e; rw [hg] at hw; simp at hw; exact hT hw.2
    exact .inr ⟨g', cap, cur', hv, hg', (Go.heap_setCell_other _ _ _ _ hne).trans hw, r⟩
theorem TpC.cells {w : World} {lo g n : Nat} {f r : Nat → List UInt8} (h : TpC w lo g n f r) {j : Nat} (hj : j < n) : (∃ u, w.cell? ⟨g, j * 2, none⟩ = some u) ∧ (∃ u, w.cell? ⟨g, j * 2 + 1, none⟩ = some u) ∧ w.frozen? ⟨g, j * 2, none⟩ = false ∧ w.frozen? ⟨g, j * 2 + 1, none⟩ = false := by
  obtain ⟨cs, h1, h2, h3⟩ := h
  obtain ⟨kv, vv, g1, g2, _⟩ := h3 j hj
  refine ⟨⟨kv, ?_⟩, ⟨vv, ?_⟩, ?_, ?_⟩
  · simp only [World.cell?, h1]; simpa using g1
  · simp only [World.cell?, h1]; simpa using g2
  · simp [World.frozen?, h1]
  · simp [World.frozen?, h1]
/-- One store, at any place of the pieces. -/
theorem TpC.put {w : World} {lo g n : Nat} {f r f' r' : Nat → List UInt8} (h : TpC w lo g n f r) {o : Nat} {v : Value} (hv : ∀ j, j < n → (j * 2 = o → Own w lo v (f' j)) ∧ (j * 2 ≠ o → f' j = f j) ∧ (j * 2 + 1 = o → Own w lo v (r' j)) ∧ (j * 2 + 1 ≠ o → r' j = r j)) : TpC (w.setCell ⟨g, o, none⟩ v) lo g n f' r' := by
  obtain ⟨cs, h1, h2, h3⟩ := h
  refine ⟨cs.setIfInBounds o v, heap_setCell_same w g o cs 73 v h1, by simpa using h2, fun j hj => ?_⟩
  obtain ⟨kv, vv, g1, g2, g3, g4⟩ := h3 j hj
  obtain ⟨v1, v2, v3, v4⟩ := hv j hj
  have e0 : j * 2 < cs.size := by omega
  have e1 : j * 2 + 1 < cs.size := by omega
  refine ⟨if j * 2 = o then v else kv, if j * 2 + 1 = o then v else vv, ?_, ?_, ?_, ?_⟩
  · by_cases q : j * 2 = o
    · subst q; simp [e0]
    · rw [Array.getElem?_setIfInBounds_ne (fun e => q e.symm), if_neg q]; exact g1
  · by_cases q : j * 2 + 1 = o
    · subst q; simp [e1]
    · rw [Array.getElem?_setIfInBounds_ne (fun e => q e.symm), if_neg q]; exact g2
  · by_cases q : j * 2 = o
    · rw [if_pos q]; exact own_setg (v1 q) h1 (by decide)
    · rw [if_neg q, v2 q]; exact own_setg g3 h1 (by decide)
  · by_cases q : j * 2 + 1 = o
    · rw [if_pos q]; exact own_setg (v3 q) h1 (by decide)
    · rw [if_neg q, v4 q]; exact own_setg g4 h1 (by decide)
theorem TpC.reads {w : World} {lo g n : Nat} {f r : Nat → List UInt8} (h : TpC w lo g n f r) (hm : n ≤ maxLen) : PReads w (.slice (some ⟨g, 0, none⟩) n n) ((List.range n).map fun j => (f j, r j)) := by
  obtain ⟨cs, h1, h2, h3⟩ := h
  refine ⟨_, n, by simp, by simp, hm, .inr ⟨g, 0, rfl, (Array.getElem?_eq_some_iff.1 h1).1, fun j hj => ?_⟩⟩
  simp only [List.length_map, List.length_range] at hj
  obtain ⟨kv, vv, g1, g2, g3, g4⟩ := h3 j hj
  refine ⟨kv, vv, ?_, ?_, ?_, ?_⟩
  · simp only [Nat.zero_add, World.cell?, h1]; simpa using g1
  · simp only [Nat.zero_add, World.cell?, h1]; simpa using g2
  · simpa using g3.reads
  · simpa using g4.reads
/-- An open table of these entries: all that it is lies from lo on. -/
structure Tb (w : World) (lo B : Nat) (l : List Et) : Prop where
  ok : TOk l
  ix : (wrB (tIdx l)).length ≤ 65535
  ag : ∀ x ∈ l, AgOk x.2
  lb : lo ≤ B
  p : ∃ g fv, w.heap[B]? = some (.cells #[.slice (some ⟨g, 0, none⟩) (tK l.length) (tK l.length), fv, .int .i64 (l.length : Int)] 84) ∧ lo ≤ g ∧ TpC w lo g (tK l.length) (tLast l) (tRow l) ∧ Fil w lo fv 6 (rmD l.length l)
theorem Tb.below {w W : World} {lo B : Nat} {l : List Et} (h : Tb w lo B l) (hb : Below w.heap.size w W) : Tb W lo B l := by
  obtain ⟨h1, h2, h3, h4, g, fv, h5, h6, h7, h8⟩ := h
  have hB := (Array.getElem?_eq_some_iff.1 h5).1
  exact ⟨h1, h2, h3, h4, g, fv, (hb.block _ hB).trans h5, h6, h7.below hb (by omega), h8.below hb⟩
/-- What Open tells. -/
def OpP (w : World) (b : List UInt8) (e : Ending) (w' : World) : Prop := Below w.heap.size w w' ∧ ((opOk b ∧ ∃ B, e = .returned (.tuple #[.pointer (some ⟨B, 0, none⟩), .int .i64 0]) ∧ Tb w' w.heap.size B (opL b)) ∨ (¬ opOk b ∧ e = .returned (.tuple #[.pointer none, .int .i64 70])))
theorem OpP.no {w w' : World} {b : List UInt8} (h : Below w.heap.size w w') (hn : ¬ opOk b) : OpP w b (.returned (.tuple #[.pointer none, .int .i64 70])) w' := ⟨h, .inr ⟨hn, rfl⟩⟩
theorem madeC (n : Nat) : (madeCells #[.slice none 0 0, .slice none 0 0] (n * 2)).size = n * 2 := by simp [madeCells]
theorem infoC : (Try.prog.info? 73).map (fun i => (i.zero, i.size, i.bytes)) = some (some (.agg #[.slice none 0 0, .slice none 0 0]), 2, 48) := by kernel_rfl
theorem made_at (n j : Nat) (h : j < n * 2) : (madeCells #[.slice none 0 0, .slice none 0 0] (n * 2))[j]? = some (.slice none 0 0) := by
  unfold madeCells
  have h2 : j % 2 = 0 ∨ j % 2 = 1 := by omega
  rcases h2 with h2 | h2 <;> simp [h, h2]
end Go.Proofs.Ytlpjdfgknmfmnaa

/- table: Open of any bytes: the walk. -/
namespace Go.Proofs.Ytlpjdfgknmfmnaa
open Go.RowKit

theorem fr_D {xs : List Fr} {b : List UInt8} (h : xs.map Fr.p = alF (b.length + 1) b) : xs.map Fr.D = opR b := by
  unfold opR
  rw [← h, List.map_map]
  rfl
def dF (b : List UInt8) (k : Nat) : List UInt8 := (opR b)[k]?.getD []
theorem range_take (L : List (List UInt8)) (n : Nat) (h : n ≤ L.length) : ((List.range n).map fun j => (L[j]?.getD [])) = L.take n := by
  apply List.ext_getElem (by simp; omega)
  intro i h1 h2
  rw [List.length_take] at h2
  have h3 : i < L.length := by omega
  simp [h3]
theorem dF_row {b : List UInt8} {l : List Et} (h : opR b = tabL l) {k : Nat} (hk : k < tK l.length) : dF b k = tRow l k := by
  unfold dF
  rw [h]
  unfold tabL
  rw [List.getElem?_append_left (by rw [tRows_len]; exact hk), List.getElem?_eq_getElem (by rw [tRows_len]; exact hk), tRows_at]
  rfl
theorem dF_ix {b : List UInt8} {l : List Et} (h : opR b = tabL l) : dF b (tK l.length) = wrB (tIdx l) ∧ dF b (tK l.length + 1) = rmB l := by
  unfold dF
  rw [h]
  unfold tabL
  rw [List.getElem?_append_right (by rw [tRows_len]; exact Nat.le_refl _), List.getElem?_append_right (by rw [tRows_len]; omega), tRows_len, Nat.sub_self, Nat.add_sub_cancel_left]
  exact ⟨rfl, rfl⟩
theorem row_setg {w : World} {base g o n size : Nat} {e : TypeId} {ys : List Value} {cs : Array Value} {T : TypeId} {v u : Value} (h : w.ownsRow base e size v n ys) (hg : w.heap[g]? = some (.cells cs T)) (hT : T ≠ e) : (w.setCell ⟨g, o, none⟩ u).ownsRow base e size v n ys := by
  obtain ⟨h1, h2⟩ := h
  refine ⟨h1, ?_⟩
  rcases h2 with h2 | ⟨g', cap, cur', hv, hg', hw, r⟩
  · exact .inl h2
  · have hne : g' ≠ g := fun e => by subst e; rw [hg] at hw; simp at hw; exact hT hw.2
    exact .inr ⟨g', cap, cur', hv, hg', (Go.heap_setCell_other _ _ _ _ hne).trans hw, r⟩
theorem POwn.setg {w : World} {base g o : Nat} {cs : Array Value} {v u : Value} {ps : List Pe} (h : POwn w base v ps) (hg : w.heap[g]? = some (.cells cs 73)) : POwn (w.setCell ⟨g, o, none⟩ u) base v ps :=
  ⟨row_setg h.1 hg (by decide), fun x hx => ⟨own_setg (h.2 x hx).1 hg (by decide), own_setg (h.2 x hx).2 hg (by decide)⟩⟩
theorem OpP.yes {w w8 : World} {b : List UInt8} {l : List Et} {g n EL : Nat} {fv : Value} (hb : Below w.heap.size w w8) (ho : opOk b) (hl : l = opL b) (hk : TOk l ∧ (wrB (tIdx l)).length ≤ 65535) (ha : ∀ x ∈ l, AgOk x.2) (hn : n = tK l.length) (he : l.length = EL) (hg : w.heap.size ≤ g) (ht : TpC w8 w.heap.size g n (tLast l) (tRow l)) (hf : Fil w8 w.heap.size fv 6 (rmD l.length l)) :
    OpP w b (.returned (.tuple #[.pointer (some ⟨w8.heap.size, 0, none⟩), .int .i64 0])) (w8.alloc (.cells #[.slice (some ⟨g, 0, none⟩) n n, fv, .int .i64 (EL : Int)] 84)) := by
  subst hl he hn
  have hba : Below w8.heap.size w8 (w8.alloc (.cells #[.slice (some ⟨g, 0, none⟩) (tK (opL b).length) (tK (opL b).length), fv, .int .i64 ((opL b).length : Int)] 84)) := (Below.refl _ _).alloc (Nat.le_refl _) _
  exact ⟨hb.alloc hb.size _, .inl ⟨ho, _, rfl, hk.1, hk.2, ha, hb.size, g, fv, heap_alloc_new _ _, hg, ht.below hba hb.size, hf.below hba⟩⟩
theorem rm_ok {l : List Et} (h : TOk l) : rdOk (rmB l) ∧ ((rmB l).getD 0 0).toNat = 6 ∧ (rmB l).drop 1 = rmD l.length l := by
  have h1 := rmN_ok h.n
  refine ⟨⟨?_, ?_, ?_, ?_⟩, rfl, rfl⟩
  · rw [rmB_len]; have := h1.2.2.2.1; omega
  · rw [rmB_len]; have := h1.2.2.1; omega
  · show 1 ≤ (6 : UInt8).toNat; decide
  · show (6 : UInt8).toNat ≤ 8; decide
set_option maxRecDepth 100000 in
set_option maxHeartbeats 4000000 in
theorem topen_any (v : Value) (b : List UInt8) (w : World) (hR : Reads w v b) (hbl : b.length ≤ 1000000) : Calls Try.prog 10 #[v] w (OpP w b) := by
  obtain ⟨ba, bc9, rfl, hbm⟩ := hR.form
  unfold maxLen at hbm
  have hA := all_any _ b hbl w hR
  have hsum := opR_sum b
  obtain ⟨BL, HBL⟩ : ∃ n, Hid (b.length = n) := ⟨_, rfl⟩
  have HR : Hid (Reads w (.slice ba b.length bc9) b) := hR
  rw [HBL.out] at HR hbm ⊢
  have HA : Hid (Calls Try.prog 32 #[.slice ba b.length bc9] w _) := hA
  rw [HBL.out] at HA
  clear hA hR
  obtain ⟨i0, hi, hz0, hz1, hz2⟩ := info_parts infoC
  go_enter Try.func10, Try.ntmps10
  go_wp2_with fail
  refine HA.out.mono ?_
  clear HA
  rintro e w1 ⟨vl, xs, rfl, hxs, hrow, hown, hb1⟩
  rw [← HBL.out] at hxs
  have hD := fr_D hxs
  have HB1 : Hid (Below w.heap.size w w1) := hb1
  obtain ⟨KS, HKS⟩ := hid_ex ((ksum (alF (BL + 1) b) : Nat) : Int)
  rw [← HKS.out]
  have hxl : xs.length = (opR b).length := by rw [← hD, List.length_map]
  obtain ⟨F, HF⟩ : ∃ n, Hid (xs.length = n) := ⟨_, rfl⟩
  rw [HF.out] at hxl hrow
  have hFb : 8 * F ≤ BL := by rw [← HBL.out]; omega
  rw [HBL.out] at hbl
  obtain ⟨fa, fc, hv⟩ := row_formS hrow
  subst hv
  by_cases hF3 : F < 3
  · have hF3' : (F : Int) - 3 < 0 := by omega
    have HNo : Hid (¬ opOk b) := fun h => by have := h.1; omega
    clear hrow hown hxs hD hxl hb1
    go_wp2_with fail
    go_ret2
    exact OpP.no HB1.out HNo.out
  · obtain ⟨n, rfl⟩ : ∃ n, F = n + 3 := ⟨F - 3, by omega⟩
    have hmk : ∀ w', (Instr.makeSlice 71 (.int .i64 (n : Int)) (.int .i64 (n : Int))).run Try.prog w' = .ok (.slice (some ⟨w'.heap.size, 0, none⟩) n n) (w'.alloc (.cells (madeCells #[.slice none 0 0, .slice none 0 0] (n * 2)) 73)) := fun w' => by
      rw [run_make w' 71 73 i0 _ Try.underlying71 hi hz0 .i64 .i64 (n : Int) (n : Int) (by omega) (by omega) (by rw [hz2]; omega) (by omega), hz1]
      rfl
    have hr2 : w1.ownsRow w.heap.size 25 1 (.slice fa (n + 3) fc) (xs.map Fr.v).length (xs.map Fr.v) := by rw [List.length_map, HF.out]; exact hrow
    obtain ⟨g0, c0, hv0, _, hg0, hcell⟩ := row_at hr2 (by rw [List.length_map, HF.out]; omega)
    rw [List.length_map, HF.out] at hv0
    simp only [Value.slice.injEq, true_and] at hv0
    obtain ⟨rfl, rfl⟩ := hv0
    have HC : Hid (g0 < w1.heap.size ∧ ∀ k (hk : k < xs.length), w1.cell? ⟨g0, k, none⟩ = some xs[k].v ∧ Own w1 w.heap.size xs[k].v (dF b k)) := by
      refine ⟨hg0, fun k hk => ⟨?_, ?_⟩⟩
      · have := hcell k (by rw [List.length_map]; exact hk)
        simpa using this
      · have := hown xs[k] (List.getElem_mem hk)
        have e : dF b k = xs[k].D := by
          unfold dF
          rw [← hD]
          simp [hk]
        rw [e]; exact this
    have HDl : Hid ((opR b).length = n + 3) := hxl.symm
    have hlo := hb1.size
    clear hrow hown hxs hD hr2 hcell hb1 hi hz0 hz1 hz2 hxl
    go_wp2_with fail
    obtain ⟨w2, HW2⟩ := hid_ex (w1.alloc (.cells (madeCells #[.slice none 0 0, .slice none 0 0] (n * 2)) 73))
    have HB2 : Hid (Below w1.heap.size w1 w2) := by unfold Hid; rw [HW2.out]; exact (Below.refl _ _).alloc (Nat.le_refl _) _
    have HT2 : Hid (TpC w2 w.heap.size w1.heap.size n (fun _ => []) (fun k => if k < 0 then dF b k else [])) := by
      unfold Hid; rw [HW2.out]
      exact ⟨_, heap_alloc_new _ _, madeC n, fun j hj => ⟨_, _, made_at n _ (by omega), made_at n _ (by omega), Own.nil _ _, Own.nil _ _⟩⟩
    rw [← HW2.out]
    clear HW2
    obtain ⟨g, HG⟩ := hid_ex w1.heap.size
    rw [← HG.out] at HT2 hlo ⊢
    go_loopw [32] (fun i wr => ∃ j : Nat, i = .int .i64 (j : Int) ∧ j ≤ n ∧ Hid (TpC wr w.heap.size g n (fun _ => []) (fun k => if k < j then dF b k else [])) ∧ Hid (Below w1.heap.size w1 wr)) (fun i _ => n - (intOf i).toNat)
    case atStart => exact ⟨0, rfl, by omega, HT2, HB2⟩
    case round =>
      clear HT2 HB2
      obtain ⟨j, rfl, hj, HT, HB⟩ := hrel
      by_cases hlt : j < n
      · have hlt' : (j : Int) < (n : Int) := by omega
        have hlt3 : (j : Int) < (n : Int) + 3 := by omega
        obtain ⟨hc1, hc2⟩ := HC.out.2 j (by rw [HF.out]; omega)
        obtain ⟨u, HU⟩ := hid_ex (xs[j]'(by rw [HF.out]; omega)).v
        rw [← HU.out] at hc1 hc2
        have hu := (HB.out.cell (p := ⟨g0, j, none⟩) HC.out.1).trans hc1
        have HOu : Hid (Own wr w.heap.size u (dF b j)) := hc2.below HB.out
        obtain ⟨ua, uc, rfl, _⟩ := hc2.form
        obtain ⟨_, ⟨u1, hu1⟩, _, hf1⟩ := HT.out.cells hlt
        clear hc1 hc2
        go_wp2_with fail
        go_roundw
        case rel =>
          refine ⟨j + 1, by go_num, by omega, HT.out.put (fun k hk => ⟨fun q => by omega, fun _ => rfl, fun q => ?_, fun q => ?_⟩), HB.out.setCell (p := ⟨g, j * 2 + 1, none⟩) (by show _ ≤ g; rw [HG.out]; exact Nat.le_refl _) _⟩
          · obtain rfl : k = j := by omega
            show Own _ _ _ (if k < k + 1 then _ else _)
            rw [if_pos (by omega)]
            exact HOu.out
          · show (if k < j + 1 then _ else _) = if k < j then _ else _
            by_cases q2 : k < j
            · rw [if_pos q2, if_pos (by omega)]
            · rw [if_neg q2, if_neg (by omega)]
        case measure => simp [intOf]; omega
      · have hlt' : ¬ (j : Int) < (n : Int) := by omega
        have hjn : j = n := by omega
        have HPr : Hid (PReads wr (.slice (some ⟨g, 0, none⟩) n n) ((List.range n).map fun k => (([] : List UInt8), if k < j then dF b k else []))) := HT.out.reads (by unfold maxLen; omega)
        have HLm : Hid (((List.range n).map fun k => (([] : List UInt8), if k < j then dF b k else [])).map (·.2) = (opR b).take n) := by
          unfold Hid
          rw [List.map_map, ← range_take (opR b) n (by rw [HDl.out]; omega)]
          refine List.map_congr_left fun k hk => ?_
          have := List.mem_range.1 hk
          show (if k < j then dF b k else []) = _
          rw [if_pos (by omega)]
          rfl
        obtain ⟨LP, HLP⟩ := hid_ex ((List.range n).map fun k => (([] : List UInt8), if k < j then dF b k else []))
        have HLl : Hid (LP.length = n) := by unfold Hid; rw [HLP.out]; simp
        rw [← HLP.out] at HPr HLm
        have hFi := first_any (.slice (some ⟨g, 0, none⟩) n n) LP (.slice none 0 0) [] 4096 wr HPr.out (.inl ⟨rfl, none, 0, rfl, fun _ => rfl⟩) (by decide) (by decide) (by rw [HLl.out]; omega) (fun x hx => by
          have h1 : x.2 ∈ (opR b).take n := by rw [← HLm.out]; exact List.mem_map_of_mem hx
          have h2 := mem_sum _ _ (List.mem_of_mem_take h1)
          have h3 := opR_sum b
          have := HBL.out
          omega) (by rw [HLm.out]; have := op_bd b n; have := HBL.out; omega)
        rw [HLm.out, show firF ((opR b).take n) [] 4096 = opL b from by unfold opL; rw [HDl.out, Nat.add_sub_cancel]] at hFi
        have HFi : Hid (Calls Try.prog 33 #[.slice (some ⟨g, 0, none⟩) n n, .slice none 0 0, .int .i64 4096] wr _) := hFi
        clear hFi HPr HLm HLP HLl
        go_wp2_with fail
        refine HFi.out.mono ?_
        clear HFi
        rintro e w3 ⟨v3, es, rfl, hes, hto, hb3⟩
        have HB3 : Hid (Below w1.heap.size w1 w3) := HB.out.trans (hb3.mono HB.out.size)
        have hzl : w.heap.size ≤ wr.heap.size := Nat.le_trans HB1.out.size HB.out.size
        have HT3 : Hid (TpC w3 w.heap.size g n (fun _ => []) (fun k => if k < j then dF b k else [])) := HT.out.below hb3 hzl
        have HWr := twrite_all v3 (opL b) w3 (by rw [← hes]; exact hto.reads)
        have hel : es.length = (opL b).length := by rw [← hes, List.length_map]
        obtain ⟨a3, c3, rfl, _⟩ := hto.form
        obtain ⟨EL, HEL⟩ : ∃ n, Hid (es.length = n) := ⟨_, rfl⟩
        rw [HEL.out] at HWr hel ⊢
        have HELo : Hid ((opL b).length = EL) := hel.symm
        have HWr' : Hid (Calls Try.prog 7 #[.slice a3 EL c3] w3 _) := HWr
        clear HWr hes hto hb3 hel HB HT
        obtain ⟨WE, HWE⟩ := hid_ex (twE (opL b))
        obtain ⟨WB, HWB⟩ := hid_ex (twB (opL b))
        rw [← HWE.out, ← HWB.out] at HWr'
        go_wp2_with fail
        refine HWr'.out.mono ?_
        clear HWr'
        rintro e w4 ⟨v4, rfl, ho4, hb4⟩
        have HB4 : Hid (Below w1.heap.size w1 w4) := HB3.out.trans (hb4.mono HB3.out.size)
        have HT4 : Hid (TpC w4 w.heap.size g n (fun _ => []) (fun k => if k < j then dF b k else [])) := HT3.out.below hb4 (Nat.le_trans HB1.out.size HB3.out.size)
        have HR4 : Hid (Reads w4 v4 WB) := ho4.reads
        obtain ⟨a4, c4, rfl, _⟩ := ho4.form
        clear ho4 hb4 HB3 HT3
        by_cases hE : WE = 0
        · subst hE
          have HEq : Hid (Calls Try.prog 34 #[.slice a4 WB.length c4, .slice ba BL bc9] w4 _) := equal_any _ _ WB b w4 HR4.out (HR.out.below (HB1.out.trans (HB4.out.mono HB1.out.size)))
          by_cases hW : WB = b
          · rw [decide_eq_true hW] at HEq
            have HTb : Hid (twE (opL b) = 0 ∧ twB (opL b) = b) := ⟨HWE.out.symm, by rw [← HWB.out]; exact hW⟩
            clear hW HWE HWB
            have hRt := opR_tab HTb.out.1 HTb.out.2
            have hOk := twE_zero HTb.out.1
            have HnK : Hid (n = tK (opL b).length) := by
              have h1 := congrArg List.length hRt
              rw [tabL_len, HDl.out] at h1
              unfold Hid; omega
            have HOpk : Hid (opOk b) := ⟨by rw [HDl.out]; omega, HTb.out.1, HTb.out.2⟩
            have HAgs : Hid (∀ x ∈ opL b, AgOk x.2) := opL_ok b
            obtain ⟨l, HL⟩ := hid_ex (opL b)
            have HRt : Hid (opR b = tabL l) := by rw [HL.out]; exact hRt
            have HOk : Hid (TOk l ∧ (wrB (tIdx l)).length ≤ 65535) := by rw [HL.out]; exact hOk
            rw [← HL.out] at HnK HELo HAgs
            clear hRt hOk HTb
            obtain ⟨hd1, hd2⟩ := dF_ix HRt.out
            rw [← HnK.out] at hd1 hd2
            have hF1 : n < xs.length := by rw [HF.out]; omega
            have hF2 : n + 1 < xs.length := by rw [HF.out]; omega
            obtain ⟨p1, p2⟩ := HC.out.2 n hF1
            obtain ⟨p3, p4⟩ := HC.out.2 (n + 1) hF2
            rw [hd1] at p2
            rw [hd2] at p4
            have HIk := tIdx_ok HOk.out.1
            have HIl := HOk.out.2
            obtain ⟨hm1, hm2, hm3⟩ := rm_ok HOk.out.1
            obtain ⟨IX, HIX⟩ := hid_ex (wrB (tIdx l))
            obtain ⟨RM, HRM⟩ := hid_ex (rmB l)
            rw [← HIX.out] at p2 HIl
            rw [← HRM.out] at p4 hm1 hm2 hm3
            have hq1 := (HB4.out.cell (p := ⟨g0, n, none⟩) HC.out.1).trans p1
            have HQ2 : Hid (w1.cell? ⟨g0, n + 1, none⟩ = some (xs[n + 1]'hF2).v) := p3
            have HQ3 : Hid (Own w1 w.heap.size (xs[n + 1]'hF2).v RM) := p4
            have HQ1 : Hid (Reads w4 (xs[n]'hF1).v IX) := (p2.below HB4.out).reads
            have HMk : Hid (rdOk RM ∧ (RM.getD 0 0).toNat = 6 ∧ RM.drop 1 = rmD l.length l) := ⟨hm1, hm2, hm3⟩
            obtain ⟨u1, HU1⟩ := hid_ex (xs[n]'hF1).v
            obtain ⟨u2, HU2⟩ := hid_ex (xs[n + 1]'hF2).v
            rw [← HU1.out] at hq1 HQ1
            rw [← HU2.out] at HQ2 HQ3
            obtain ⟨ua, uc, rfl, _⟩ := HQ1.out.form
            have hRd := read_any _ IX (by omega) w4 HQ1.out
            unfold RdPost at hRd
            rw [show rdB IX = some (tIdx l) from by rw [HIX.out, wrB_of HIk]; exact rdB_wb HIk] at hRd
            have HRd : Hid (Calls Try.prog 35 #[.slice ua IX.length uc] w4 _) := hRd
            have hn3 : (n : Int) < (n : Int) + 3 := by omega
            clear p1 p2 p3 p4 hd1 hd2 HIk hm1 hm2 hm3 HU1 HU2 hRd HR4 HC HRM
            go_wp2_with fail
            refine HEq.out.mono ?_
            clear HEq
            rintro e w5 ⟨rfl, rfl⟩
            go_wp2_with fail
            refine HRd.out.mono ?_
            clear HRd
            rintro e w6 ⟨hb6, u6, ps, rfl, hps, hpo⟩
            have HB6 : Hid (Below w1.heap.size w1 w6) := HB4.out.trans (hb6.mono HB4.out.size)
            have HT6 : Hid (TpC w6 w.heap.size g n (fun _ => []) (fun k => if k < j then dF b k else [])) := HT4.out.below hb6 (Nat.le_trans HB1.out.size HB4.out.size)
            obtain ⟨a6, c6, rfl, _⟩ := hpo.form
            have hpl : ps.length = n := by have := congrArg List.length hps; rw [List.length_map, tIdx_len, ← HnK.out] at this; exact this
            have HPL : Hid (ps.length = n) := hpl
            rw [hpl] at hpo ⊢
            have hz45 : w.heap.size ≤ w5.heap.size := Nat.le_trans HB1.out.size HB4.out.size
            have HPo : Hid (POwn w6 w5.heap.size (.slice a6 n c6) ps) := hpo
            have HPs : Hid (ps.map Pe.p = tIdx l) := hps
            have HT6' : Hid (TpC w6 w.heap.size g n (fun k => if k < 0 then tLast l k else []) (tRow l)) := by
              obtain ⟨cs, g1, g2, g3⟩ := HT6.out
              refine ⟨cs, g1, g2, fun k hk => ?_⟩
              obtain ⟨kv, vv, k1, k2, k3, k4⟩ := g3 k hk
              refine ⟨kv, vv, k1, k2, k3, ?_⟩
              have e : (if k < j then dF b k else []) = tRow l k := by rw [if_pos (by omega), dF_row HRt.out (by rw [← HnK.out]; exact hk)]
              rw [← e]; exact k4
            clear hpo hps hpl hb6 HT6 HT4 HB4 hq1 HQ1
            go_wp2_with fail
            go_loopw [69] (fun i wr => ∃ q : Nat, i = .int .i64 (q : Int) ∧ q ≤ n ∧ Hid (TpC wr w.heap.size g n (fun k => if k < q then tLast l k else []) (tRow l)) ∧ Hid (POwn wr w5.heap.size (.slice a6 n c6) ps) ∧ Hid (Below w1.heap.size w1 wr)) (fun i _ => n - (intOf i).toNat)
            case atStart => exact ⟨0, rfl, by omega, HT6', HPo, HB6⟩
            case round =>
              clear HT6' HPo HB6
              obtain ⟨q, rfl, hq, HT, HPo, HB⟩ := hrel
              by_cases hql : q < n
              · have hql' : (q : Int) < (n : Int) := by omega
                have hqp : q < ps.length := by rw [HPL.out]; exact hql
                obtain ⟨x, Hx⟩ := hid_ex ps[q]
                have HXp : Hid (x.p.1 = tLast l q) := by
                  have h1 : (ps.map Pe.p)[q]'(by rw [List.length_map]; exact hqp) = (tIdx l)[q]'(by rw [tIdx_len, ← HnK.out]; exact hql) := by simp only [HPs.out]
                  rw [tIdx_at, List.getElem_map, ← Hx.out] at h1
                  unfold Hid; rw [h1]
                obtain ⟨gg, rfl, c0, c1, hk0, hk1⟩ := HPo.out.atT hqp Hx.out
                obtain ⟨xk, xv, ⟨pk, pv⟩, xb, xr⟩ := x
                simp only at c0 c1 hk0 hk1 HXp
                obtain ⟨ea, ec, rfl, _⟩ := hk0.reads.form
                obtain ⟨fa', fc', rfl, _⟩ := hk1.reads.form
                have HKo : Hid (Own wr w5.heap.size (.slice ea pk.length ec) pk) := hk0
                obtain ⟨EL', HEL'⟩ : ∃ n, Hid (pk.length = n) := ⟨_, rfl⟩
                obtain ⟨FL', HFL'⟩ : ∃ n, Hid (pv.length = n) := ⟨_, rfl⟩
                rw [HEL'.out] at c0 HKo
                rw [HFL'.out] at c1
                have HOn : Hid (([.slice ea EL' ec, .slice fa' FL' fc'] : List Value).toArray.all (·.oneCell') = true) := by unfold Hid; kernel_rfl
                clear hk0 hk1 Hx
                go_wp2_with (refine stop_store 53 _ _ rfl ?_)
                refine Stop.of ?_
                refine wpList_storeN rfl _ _ _ rfl wr.heap.size 0 [.slice ea EL' ec, .slice fa' FL' fc'] rfl rfl _ _ (heap_alloc_new _ _) (by simp) (by kernel_rfl) HOn.out ?_
                intro w7 hw7
                obtain ⟨hb7, hx7, hz7⟩ := stW_nw hw7 (by simp)
                have HB7 : Hid (Below w1.heap.size w1 w7) := HB.out.trans (hb7.mono HB.out.size)
                have HT7 : Hid (TpC w7 w.heap.size g n (fun k => if k < q then tLast l k else []) (tRow l)) := HT.out.below hb7 (Nat.le_trans HB1.out.size HB.out.size)
                have HP7 : Hid (POwn w7 w5.heap.size (.slice (some ⟨gg, 0, none⟩) n c6) ps) := HPo.out.below hb7
                have HK7 : Hid (Own w7 w.heap.size (.slice ea EL' ec) pk) := (HKo.out.below hb7).mono hz45
                have q0 := cell_rw hx7 0 (by simp)
                simp only [List.getElem_toArray, List.getElem_cons_zero] at q0
                obtain ⟨⟨u1, hu1⟩, _, hf1, _⟩ := HT7.out.cells hql
                clear hw7 hb7 hx7 hz7 c0 c1 HT HPo HB HKo
                go_wp2_with fail
                go_roundw
                case rel =>
                  have hg7 : ∃ cs, w7.heap[g]? = some (.cells cs 73) := by obtain ⟨cs, h1, _⟩ := HT7.out; exact ⟨cs, h1⟩
                  obtain ⟨cs7, hcs7⟩ := hg7
                  refine ⟨q + 1, by go_num, by omega, HT7.out.put (fun k hk => ⟨fun e => ?_, fun e => ?_, fun e => by omega, fun _ => rfl⟩), HP7.out.setg hcs7, HB7.out.setCell (p := ⟨g, q * 2, none⟩) (by show _ ≤ g; rw [HG.out]; exact Nat.le_refl _) _⟩
                  · obtain rfl : k = q := by omega
                    show Own _ _ _ (if k < k + 1 then _ else _)
                    rw [if_pos (by omega), ← HXp.out]
                    exact HK7.out
                  · show (if k < q + 1 then _ else _) = if k < q then _ else _
                    by_cases q2 : k < q
                    · rw [if_pos q2, if_pos (by omega)]
                    · rw [if_neg q2, if_neg (by omega)]
                case measure => simp [intOf]; omega
              · have hql' : ¬ (q : Int) < (n : Int) := by omega
                have HTf : Hid (TpC wr w.heap.size g n (tLast l) (tRow l)) := by
                  obtain ⟨cs, g1, g2, g3⟩ := HT.out
                  refine ⟨cs, g1, g2, fun k hk => ?_⟩
                  obtain ⟨kv, vv, k1, k2, k3, k4⟩ := g3 k hk
                  have e : (if k < q then tLast l k else []) = tLast l k := if_pos (by omega)
                  exact ⟨kv, vv, k1, k2, by rw [← e]; exact k3, k4⟩
                have hu2 := (HB.out.cell (p := ⟨g0, n + 1, none⟩) hg0).trans HQ2.out
                have HR2 : Hid (Reads wr u2 RM) := (HQ3.out.below HB.out).reads
                obtain ⟨va, vc, rfl, _⟩ := HR2.out.form
                have hFr := read_ok _ RM wr HR2.out HMk.out.1
                rw [HMk.out.2.1, HMk.out.2.2] at hFr
                have HFr : Hid (Calls Try.prog 36 #[.slice va RM.length vc] wr _) := hFr
                have hn4 : (n : Int) + 1 < (n : Int) + 3 := by omega
                clear hFr HT HPo
                go_wp2_with fail
                refine HFr.out.mono ?_
                clear HFr
                rintro e w8 ⟨v8, rfl, hfil, hb8⟩
                have HB8 : Hid (Below w.heap.size w w8) := HB1.out.trans ((HB.out.trans (hb8.mono HB.out.size)).mono HB1.out.size)
                have HT8 : Hid (TpC w8 w.heap.size g n (tLast l) (tRow l)) := HTf.out.below hb8 (Nat.le_trans HB1.out.size HB.out.size)
                obtain ⟨B8, hv8⟩ := hfil.ptr
                subst hv8
                have HFil : Hid (Fil w8 w.heap.size (.pointer (some ⟨B8, 0, none⟩)) 6 (rmD l.length l)) := hfil.mono (Nat.le_trans HB1.out.size HB.out.size)
                clear hfil hb8 hu2 HTf
                go_wp2_with fail
                go_ret2
                exact OpP.yes HB8.out HOpk.out HL.out HOk.out HAgs.out HnK.out HELo.out hlo HT8.out HFil.out
          · rw [decide_eq_false hW] at HEq
            have HNo : Hid (¬ opOk b) := fun h => hW (by rw [HWB.out]; exact h.2.2)
            clear hW HWE HWB
            go_wp2_with fail
            refine HEq.out.mono ?_
            clear HEq
            rintro e w5 ⟨rfl, rfl⟩
            go_wp2_with fail
            go_ret2
            exact OpP.no (HB1.out.trans (HB4.out.mono HB1.out.size)) HNo.out
        · have HNo : Hid (¬ opOk b) := fun h => hE (by rw [HWE.out]; exact h.2.1)
          have hE2 : (WE != 0) = true := by simpa using hE
          clear HWE HWB
          go_wp2_with fail
          go_ret2
          exact OpP.no (HB1.out.trans (HB4.out.mono HB1.out.size)) HNo.out
end Go.Proofs.Ytlpjdfgknmfmnaa

/- table: sort.Search; Seek, plainly. -/
namespace Go.Proofs.Ytlpjdfgknmfmnaa
open Go.RowKit

set_option maxRecDepth 100000 in
set_option maxHeartbeats 2000000 in
theorem search_any (n : Nat) (hn : n ≤ 1000000) (x y : Value) (p : Nat → Bool) (w : World) (hf : ∀ (i : Nat) W, i < n → Below w.heap.size w W → Calls Try.prog 79 #[.int .i64 (i : Int), x, y] W fun e W' => e = .returned (.bool (p i)) ∧ Below W.heap.size W W')
    (hp : ∀ i j, i ≤ j → j < n → p i = true → p j = true) :
    Calls Try.prog 78 #[.int .i64 (n : Int), .func (.func 79) #[] #[x, y]] w fun e w' => ∃ r : Nat, e = .returned (.int .i64 (r : Int)) ∧ r ≤ n ∧ (∀ i, i < r → p i = false) ∧ (∀ i, r ≤ i → i < n → p i = true) ∧ Below w.heap.size w w' := by
  have HF : Hid (∀ (i : Nat) W, i < n → Below w.heap.size w W → Calls Try.prog 79 #[.int .i64 (i : Int), x, y] W fun e W' => e = .returned (.bool (p i)) ∧ Below W.heap.size W W') := hf
  have HP : Hid (∀ i j, i ≤ j → j < n → p i = true → p j = true) := hp
  clear hf hp
  go_enter Try.func78, Try.ntmps78
  go_wp2_with fail
  go_loopw [5, 6] (fun a b wr => ∃ i j : Nat, a = .int .i64 (i : Int) ∧ b = .int .i64 (j : Int) ∧ i ≤ j ∧ j ≤ n ∧ Hid (∀ k, k < i → p k = false) ∧ Hid (∀ k, j ≤ k → k < n → p k = true) ∧ Hid (Below w.heap.size w wr)) (fun a b _ => (intOf b - intOf a).toNat)
  case atStart => exact ⟨0, n, rfl, rfl, by omega, by omega, fun k h => by omega, fun k h1 h2 => by omega, Below.refl _ _⟩
  case round =>
    obtain ⟨i, j, rfl, rfl, hij, hjn, H1, H2, HB⟩ := hrel
    by_cases hlt : i < j
    · have hlt' : (i : Int) < (j : Int) := by omega
      obtain ⟨h, HH⟩ : ∃ h : Nat, Hid ((i + j) / 2 = h) := ⟨_, rfl⟩
      have hh1 : i ≤ h := by rw [← HH.out]; omega
      have hh2 : h < j := by rw [← HH.out]; omega
      have hsh : ((i : Int) + (j : Int)) / 2 = (h : Int) := by rw [← HH.out]; omega
      have HC : Hid (Calls Try.prog 79 #[.int .i64 (h : Int), x, y] wr _) := HF.out h wr (by omega) HB.out
      obtain ⟨q, HQ⟩ := hid_ex (p h)
      rw [← HQ.out] at HC
      go_wp2_with fail
      refine HC.out.mono ?_
      clear HC
      rintro e w2 ⟨rfl, hb2⟩
      have HB2 : Hid (Below w.heap.size w w2) := HB.out.trans (hb2.mono HB.out.size)
      clear hb2 hsh
      cases q with
      | true =>
        have HN2 : Hid (∀ k, h ≤ k → k < n → p k = true) := fun k h1 h2 => HP.out h k h1 h2 HQ.out.symm
        go_wp2_with fail
        go_roundw
        case rel => exact ⟨i, h, rfl, rfl, by omega, by omega, H1, HN2, HB2⟩
        case measure => simp [intOf]; omega
      | false =>
        have HN1 : Hid (∀ k, k < h + 1 → p k = false) := fun k h1 => by
          cases hk : p k with
          | false => rfl
          | true => have := HP.out k h (by omega) (by omega) hk; rw [← HQ.out] at this; cases this
        go_wp2_with fail
        go_roundw
        case rel => exact ⟨h + 1, j, by go_num, rfl, by omega, by omega, HN1, H2, HB2⟩
        case measure => simp [intOf]; omega
    · have hlt' : ¬ (i : Int) < (j : Int) := by omega
      obtain rfl : i = j := by omega
      go_wp2_with fail
      go_ret
      exact ⟨i, rfl, by omega, H1.out, H2.out, HB.out⟩
/-- Seek, plainly. -/
def skT (l : List Et) (key : List UInt8) (m : Nat) : List Et := (geF key l).take m
def pS (l : List Et) (key : List UInt8) (i : Nat) : Bool := decide (0 ≤ Lib.compareBytes (tLast l i) key)
theorem tLast_lt {l : List Et} (h : TOk l) {i j : Nat} (hij : i < j) (hj : j < tK l.length) : ltK (tLast l i) (tLast l j) := by
  have g2 := tK_lt.1 hj
  have g1 : 16 * i < l.length := by omega
  rw [tLast_at g1, tLast_at g2]
  have hs := List.pairwise_iff_getElem.1 h.s
  have q1 := tCh_len l i
  have q2 := tCh_len l j
  have := hs (16 * i + ((tCh l i).length - 1)) (16 * j + ((tCh l j).length - 1)) (by rw [List.length_map]; omega) (by rw [List.length_map]; omega) (by omega)
  simpa using this
theorem pS_mono {l : List Et} (h : TOk l) (key : List UInt8) : ∀ i j, i ≤ j → j < tK l.length → pS l key i = true → pS l key j = true := by
  intro i j hij hj hi
  unfold pS at *
  simp only [decide_eq_true_eq] at *
  rcases Nat.lt_or_ge i j with hlt | hge
  · have h1 := tLast_lt h hlt hj
    rw [cmp_ge] at hi ⊢
    exact fun h2 => hi (ltK_trans h1 h2)
  · obtain rfl : i = j := by omega
    exact hi
/-- What stands ahead of a row whose last key is less, is less. -/
theorem ahead_less {l : List Et} (h : TOk l) {r : Nat} {key : List UInt8} (hp : ∀ i, i < r → pS l key i = false) : geF key (l.take (16 * r)) = [] := by
  unfold geF
  rw [List.filter_eq_nil_iff]
  intro x hx
  obtain ⟨i, hi, rfl⟩ := List.getElem_of_mem hx
  rw [List.length_take] at hi
  simp only [decide_eq_true_eq, List.getElem_take]
  rw [cmp_ge]
  intro hno
  apply hno
  have hq : i / 16 < r := by omega
  have g1 : 16 * (i / 16) < l.length := by omega
  have h1 := hp (i / 16) hq
  unfold pS at h1
  simp only [decide_eq_false_iff_not] at h1
  rw [cmp_ge, Decidable.not_not, tLast_at g1] at h1
  have q1 := tCh_len l (i / 16)
  rcases Nat.lt_or_ge i (16 * (i / 16) + ((tCh l (i / 16)).length - 1)) with hlt | hge
  · have hs := List.pairwise_iff_getElem.1 h.s i (16 * (i / 16) + ((tCh l (i / 16)).length - 1)) (by rw [List.length_map]; omega) (by rw [List.length_map]; omega) hlt
    have hs' : ltK l[i].1 (l[16 * (i / 16) + ((tCh l (i / 16)).length - 1)]'(by omega)).1 := by simpa using hs
    exact ltK_trans hs' h1
  · have e : 16 * (i / 16) + ((tCh l (i / 16)).length - 1) = i := by omega
    simp only [e] at h1
    exact h1
theorem take_rows {l : List Et} (h : TOk l) (hA : ∀ x ∈ l, AgOk x.2) (r : Nat) (hr : r ≤ tK l.length) (key : List UInt8) (hp : ∀ i, i < r → pS l key i = false) : geF key (((tRows l).drop r).flatMap enF) = geF key l := by
  have h1 := flat_rows h hA
  have h2 : ((tRows l).take r).flatMap enF ++ ((tRows l).drop r).flatMap enF = l := by rw [← List.flatMap_append, List.take_append_drop]; exact h1
  have h3 : ((tRows l).take r).flatMap enF = l.take (16 * r) := by
    have hlen : (((tRows l).take r).flatMap enF).length = min (16 * r) l.length := by
      have hone : ∀ j, (enF (tRow l j)).length = (tCh l j).length := by
        intro j
        have h0 := rowP_ok h j
        unfold enF tRow
        rw [wrB_of h0, rdB_wb h0]
        simp [rowP]
      have : ∀ n, n ≤ tK l.length → (((tRows l).take n).flatMap enF).length = min (16 * n) l.length := by
        intro n
        induction n with
        | zero => intro _; simp
        | succ n ih =>
          intro hn
          have hlt : n < (tRows l).length := by rw [tRows_len]; omega
          rw [List.take_add_one, List.getElem?_eq_getElem hlt, List.flatMap_append, List.length_append, ih (by omega), tRows_at hlt]
          simp only [Option.toList_some, List.flatMap_cons, List.flatMap_nil, List.append_nil]
          rw [hone, tCh_len]
          omega
      exact this r hr
    have h5 : ∀ X Y : List Et, X ++ Y = l → X = l.take X.length := fun X Y e => by subst e; rw [List.take_left]
    have h4 := h5 _ _ h2
    rw [h4, hlen]
    rcases Nat.lt_or_ge (16 * r) l.length with q | q
    · rw [Nat.min_eq_left (by omega)]
    · rw [Nat.min_eq_right q, List.take_length, List.take_of_length_le q]
  have h6 := congrArg (geF key) h2
  rw [geF_app, h3, ahead_less h hp, List.nil_append] at h6
  exact h6
end Go.Proofs.Ytlpjdfgknmfmnaa
