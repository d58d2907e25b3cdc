/- TL0 TA3 TN6 TN9, joined. -/
import Derived.Test.YtlpjdfgknmfmnaaTE2
import Derived.Test.YtlpjdfgknmfmnaaTE7
import Derived.Test.YtlpjdfgknmfmnaaTE8
import Derived.Test.YtlpjdfgknmfmnaaTE13
import Derived.Test.YtlpjdfgknmfmnaaTE15
import Derived.Test.YtlpjdfgknmfmnaaTE18
import Derived.Test.YtlpjdfgknmfmnaaTE26
import Derived.Test.YtlpjdfgknmfmnaaTE30
import Derived.Test.YtlpjdfgknmfmnaaTE35
import Derived.Deep.Slices
import Derived.ProofKit
import Derived.OpenShut
import Derived.Lib.SmallJoins
/- law10: Great. -/
namespace Go.Proofs.Ytlpjdfgknmfmnaa
open Go.RowKit

/-- Are these too many entries, or too long keys? -/
def grB (L : List Et) : Bool := (decide (80 < L.length) && decide (L.length ≤ 4096)) || decide (5000 < L.length) || L.any fun x => decide (1000 < x.1.length)
theorem gr_no {L : List Et} (h : grB L = false) : (L.length ≤ 80 ∨ (4096 < L.length ∧ L.length ≤ 5000)) ∧ ∀ x ∈ L, x.1.length ≤ 1000 := by
  unfold grB at h
  simp only [Bool.or_eq_false_iff, Bool.and_eq_false_iff, decide_eq_false_iff_not, List.any_eq_false, decide_eq_true_eq] at h
  obtain ⟨⟨h1, h2⟩, h3⟩ := h
  exact ⟨by omega, fun x hx => by have := h3 x hx; omega⟩
set_option maxRecDepth 100000 in
set_option maxHeartbeats 2000000 in
theorem great10_any (v : Value) (L : List Et) (w : World) (h : TRd w v L) : Calls Try.prog 5 #[v] w fun e w' => e = .returned (.bool (grB L)) ∧ w' = w := by
  obtain ⟨a, cap, rfl, hc, hm⟩ : ∃ a cap, v = .slice a L.length cap ∧ L.length ≤ cap ∧ cap ≤ maxLen := by obtain ⟨a, cap, h1, h2, h3, _⟩ := h; exact ⟨a, cap, h1, h2, h3⟩
  unfold maxLen at hm
  have HR : Hid (TRd w (.slice a L.length cap) L) := h
  have HG : Hid (grB L = ((decide (80 < L.length) && decide (L.length ≤ 4096)) || decide (5000 < L.length) || L.any fun x => decide (1000 < x.1.length))) := rfl
  obtain ⟨R, HRe⟩ := hid_ex (grB L)
  rw [← HRe.out] at HG ⊢
  obtain ⟨N, HN⟩ : ∃ n, Hid (L.length = n) := ⟨_, rfl⟩
  rw [HN.out] at HR hc HG ⊢
  clear h HRe
  go_enter Try.func5, Try.ntmps5
  by_cases h1 : 80 < N ∧ N ≤ 4096
  · have g1 : (80 : Int) < (N : Int) := by omega
    have g2 : (N : Int) ≤ 4096 := by omega
    have HQ : Hid (R = true) := by unfold Hid; rw [HG.out, decide_eq_true h1.1, decide_eq_true h1.2]; rfl
    go_wp2_with fail
    go_ret
    exact ⟨by rw [HQ.out]; rfl, rfl⟩
  · by_cases h2 : 5000 < N
    · have g1 : (80 : Int) < (N : Int) := by omega
      have g2 : ¬ (N : Int) ≤ 4096 := by omega
      have g3 : (5000 : Int) < (N : Int) := by omega
      have HQ : Hid (R = true) := by unfold Hid; rw [HG.out, decide_eq_true h2]; simp
      go_wp2_with fail
      go_ret
      exact ⟨by rw [HQ.out]; rfl, rfl⟩
    · have HG2 : Hid (R = L.any fun x => decide (1000 < x.1.length)) := by
        unfold Hid
        rw [HG.out, decide_eq_false h2]
        have : (decide (80 < N) && decide (N ≤ 4096)) = false := by
          rw [Bool.and_eq_false_iff, decide_eq_false_iff_not, decide_eq_false_iff_not]
          omega
        rw [this]; rfl
      have g3 : ¬ (5000 : Int) < (N : Int) := by omega
      clear HG
      have key : ∀ (K : Nat → Prop), (K 0) → K 0 := fun _ h => h
      clear key
      by_cases h3 : 80 < N
      · have g1 : (80 : Int) < (N : Int) := by omega
        have g2 : ¬ (N : Int) ≤ 4096 := by omega
        go_wp2_with fail
        go_loopw [3] (fun i wr => wr = w ∧ ∃ j : Nat, i = .int .i64 (j : Int) ∧ j ≤ N ∧ Hid (∀ x ∈ L.take j, x.1.length ≤ 1000)) (fun i _ => N - (intOf i).toNat)
        case atStart => exact ⟨rfl, 0, rfl, by omega, fun x hx => by simp at hx⟩
        case round =>
          obtain ⟨rfl, j, rfl, hj, HA⟩ := hrel
          by_cases hlt : j < N
          · have hlt' : (j : Int) < (N : Int) := by omega
            have hjl : j < L.length := by rw [HN.out]; exact hlt
            obtain ⟨x, Hx⟩ := hid_ex L[j]
            obtain ⟨b, off, kv, rfl, hbw, hcs, hrk, _⟩ := HR.out.at hjl Hx.out
            obtain ⟨ka, kc, rfl, _⟩ := hrk.form
            have c0 := hcs 0 (by decide)
            simp only [e7, List.getElem_cons_zero, Nat.add_zero] at c0
            obtain ⟨KL, HKL⟩ : ∃ n, Hid (x.1.length = n) := ⟨_, rfl⟩
            rw [HKL.out] at c0
            clear hcs hrk
            by_cases hb : 1000 < KL
            · have hb' : (1000 : Int) < (KL : Int) := by omega
              have HQ : Hid (R = true) := by
                unfold Hid
                rw [HG2.out, List.any_eq_true]
                exact ⟨x, by rw [Hx.out]; exact List.getElem_mem hjl, by rw [HKL.out]; exact decide_eq_true hb⟩
              go_wp2_with fail
              go_ret
              exact ⟨by rw [HQ.out]; rfl, rfl⟩
            · have hb' : ¬ (1000 : Int) < (KL : Int) := by omega
              have HA2 : Hid (∀ x ∈ L.take (j + 1), x.1.length ≤ 1000) := by
                intro y hy
                rw [List.take_add_one, List.getElem?_eq_getElem hjl] at hy
                rcases List.mem_append.1 hy with hy | hy
                · exact HA.out y hy
                · simp at hy; subst hy; rw [← Hx.out, HKL.out]; omega
              go_wp2_with fail
              go_roundw
              case rel => exact ⟨trivial, j + 1, by go_num, by omega, HA2⟩
              case measure => simp [intOf]; omega
          · have hlt' : ¬ (j : Int) < (N : Int) := by omega
            have HQ : Hid (R = false) := by
              unfold Hid
              rw [HG2.out, List.any_eq_false]
              intro x hx
              have := HA.out x (by rw [List.take_of_length_le (by rw [HN.out]; omega)]; exact hx)
              simp; omega
            go_wp2_with fail
            go_ret
            exact ⟨by rw [HQ.out]; rfl, rfl⟩
      · have g1 : ¬ (80 : Int) < (N : Int) := by omega
        go_wp2_with fail
        go_loopw [3] (fun i wr => wr = w ∧ ∃ j : Nat, i = .int .i64 (j : Int) ∧ j ≤ N ∧ Hid (∀ x ∈ L.take j, x.1.length ≤ 1000)) (fun i _ => N - (intOf i).toNat)
        case atStart => exact ⟨rfl, 0, rfl, by omega, fun x hx => by simp at hx⟩
        case round =>
          obtain ⟨rfl, j, rfl, hj, HA⟩ := hrel
          by_cases hlt : j < N
          · have hlt' : (j : Int) < (N : Int) := by omega
            have hjl : j < L.length := by rw [HN.out]; exact hlt
            obtain ⟨x, Hx⟩ := hid_ex L[j]
            obtain ⟨b, off, kv, rfl, hbw, hcs, hrk, _⟩ := HR.out.at hjl Hx.out
            obtain ⟨ka, kc, rfl, _⟩ := hrk.form
            have c0 := hcs 0 (by decide)
            simp only [e7, List.getElem_cons_zero, Nat.add_zero] at c0
            obtain ⟨KL, HKL⟩ : ∃ n, Hid (x.1.length = n) := ⟨_, rfl⟩
            rw [HKL.out] at c0
            clear hcs hrk
            by_cases hb : 1000 < KL
            · have hb' : (1000 : Int) < (KL : Int) := by omega
              have HQ : Hid (R = true) := by
                unfold Hid
                rw [HG2.out, List.any_eq_true]
                exact ⟨x, by rw [Hx.out]; exact List.getElem_mem hjl, by rw [HKL.out]; exact decide_eq_true hb⟩
              go_wp2_with fail
              go_ret
              exact ⟨by rw [HQ.out]; rfl, rfl⟩
            · have hb' : ¬ (1000 : Int) < (KL : Int) := by omega
              have HA2 : Hid (∀ x ∈ L.take (j + 1), x.1.length ≤ 1000) := by
                intro y hy
                rw [List.take_add_one, List.getElem?_eq_getElem hjl] at hy
                rcases List.mem_append.1 hy with hy | hy
                · exact HA.out y hy
                · simp at hy; subst hy; rw [← Hx.out, HKL.out]; omega
              go_wp2_with fail
              go_roundw
              case rel => exact ⟨trivial, j + 1, by go_num, by omega, HA2⟩
              case measure => simp [intOf]; omega
          · have hlt' : ¬ (j : Int) < (N : Int) := by omega
            have HQ : Hid (R = false) := by
              unfold Hid
              rw [HG2.out, List.any_eq_false]
              intro x hx
              have := HA.out x (by rw [List.take_of_length_le (by rw [HN.out]; omega)]; exact hx)
              simp; omega
            go_wp2_with fail
            go_ret
            exact ⟨by rw [HQ.out]; rfl, rfl⟩
end Go.Proofs.Ytlpjdfgknmfmnaa

/- table: entries, opened. -/
namespace Go.Proofs.Ytlpjdfgknmfmnaa
open Go.ChangeShapes Go.WideShapes Go.ChangeAt Go.RowKit Go.Joins

set_option maxRecDepth 100000 in
theorem openA' {H : Type} {enc : TypeId × Value → H} {W : World} {base : Nat} {spare : Nat → Bool} {held : Bool} {c0 c1 c2 c3 c4 c5 : Value} {x : DataW H × List MemPlace} {fuel : Nat}
    (hf : DataW.trod enc Try.prog W base spare held fuel 41 [c0, c1, c2, c3, c4, c5] = some x) :
    ∃ a : Ag, [c0, c1, c2, c3, c4, c5] = [.int .u64 a.c, .bool a.o, .int .i64 (hi a.s), .int .u64 (lo a.s), .int .i64 a.mn, .int .i64 a.mx] ∧ AgOk a := by
  obtain ⟨xs, n, _, _, _, hlen, hfs⟩ := DataW.trod_struct Try.underlying41 hf
  obtain ⟨y0, g0⟩ := some_of_len (i := 0) hlen (by decide)
  obtain ⟨y1, g1⟩ := some_of_len (i := 1) hlen (by decide)
  obtain ⟨y2, g2⟩ := some_of_len (i := 2) hlen (by decide)
  obtain ⟨y3, g3⟩ := some_of_len (i := 3) hlen (by decide)
  obtain ⟨y4, g4⟩ := some_of_len (i := 4) hlen (by decide)
  have e0 := (hfs 0 _ rfl).trans g0
  have e1 := (hfs 1 _ rfl).trans g1
  have e2 := (hfs 2 _ rfl).trans g2
  have e3 := (hfs 3 _ rfl).trans g3
  have e4 := (hfs 4 _ rfl).trans g4
  simp [cellsU64] at e0
  simp [cellsBool] at e1
  simp [cellsWd] at e2
  simp [cells64] at e3
  simp [cells64] at e4
  obtain ⟨a0, q0, _, w0⟩ := DataW.trod_int Try.underlying37 e0
  obtain ⟨a1, q1, _⟩ := DataW.trod_bool Try.underlying4 e1
  obtain ⟨a3, q3, _, w3⟩ := DataW.trod_int Try.underlying2 e3
  obtain ⟨a4, q4, _, w4⟩ := DataW.trod_int Try.underlying2 e4
  obtain ⟨z0, z1, m, _, _, f0, f1⟩ := trod_struct2 Try.underlying39 e2
  simp [cells64] at f0
  simp [cellsU64] at f1
  obtain ⟨s0, t0, _, u0⟩ := DataW.trod_int Try.underlying2 f0
  obtain ⟨s1, t1, _, u1⟩ := DataW.trod_int Try.underlying37 f1
  simp at q0 q1 q3 q4 t0 t1
  subst q0 q1 q3 q4 t0 t1
  have b0 := bounds_u64 w0
  have b3 := bounds_i64 w3
  have b4 := bounds_i64 w4
  have d0 := bounds_i64 u0
  have d1 := bounds_u64 u1
  obtain ⟨sx, x1, x2, rfl, rfl⟩ := of_halves s0 s1 (by omega) (by omega) (by omega) (by omega)
  exact ⟨⟨a0, a1, sx, a3, a4⟩, rfl, b0.1, (by have := b0.2; show a0 < _; omega), b3.1, b3.2, b4.1, b4.2, x1, x2⟩
theorem seven_of {α : Type} : ∀ {l : List α}, l.length = 7 → ∃ c0 c1 c2 c3 c4 c5 c6, l = [c0, c1, c2, c3, c4, c5, c6]
  | [c0, c1, c2, c3, c4, c5, c6], _ => ⟨c0, c1, c2, c3, c4, c5, c6, rfl⟩
set_option maxRecDepth 100000 in
theorem openT' {H : Type} {enc : TypeId × Value → H} {W : World} {base : Nat} {spare : Nat → Bool} {held : Bool} {c0 c1 c2 c3 c4 c5 c6 : Value} {x : DataW H × List MemPlace} {fuel : Nat}
    (hf : DataW.trod enc Try.prog W base spare held fuel 43 [c0, c1, c2, c3, c4, c5, c6] = some x) :
    ∃ (kv : Value) (k : List UInt8) (a : Ag), [c0, c1, c2, c3, c4, c5, c6] = e7 kv a ∧ Reads W kv k ∧ AgOk a := by
  obtain ⟨z0, z1, m, _, _, f0, f1⟩ := trod_struct2 Try.underlying43 hf
  have ck : Try.prog.cellsOf 25 = 1 := by kernel_rfl
  simp [ck] at f0
  simp [cellsA] at f1
  obtain ⟨kv, k, e0, hr⟩ := openB' f0
  obtain ⟨a, e1, ha⟩ := openA' f1
  simp at e0
  subst e0
  refine ⟨c0, k, a, ?_, hr, ha⟩
  rw [e1]; rfl
set_option maxRecDepth 100000 in
theorem openTe {H : Type} {enc : TypeId × Value → H} {W : World} {r : Reach} {b0 base : Nat} {spare : Nat → Bool} {held : Bool} {v : Value} {d : DataW H} {p : List MemPlace}
    (hv : Value.okWide Try.prog W r b0 22 v) (h : DataW.Trod enc Try.prog W base spare held 22 v d p) : ∃ L : List Et, TRd W v L := by
  obtain ⟨a, len, cap, rfl⟩ := okWide_slice Try.underlying22 hv
  obtain ⟨fuel, hf⟩ := h
  rcases Go.Deep.open_slice Try.underlying22 hf with ⟨hcs, _⟩ | ⟨x, l, c, m, n, D, Pl, hcs, _, hl, hm, hz, _, hcell⟩
  · simp [Value.cells] at hcs
    obtain ⟨rfl, rfl, rfl⟩ := hcs
    exact ⟨[], none, 0, rfl, by simp, by simp, fun j hj => by simp at hj⟩
  · simp [Value.cells] at hcs
    obtain ⟨rfl, rfl, rfl⟩ := hcs
    have hzl : len ≤ m := by rw [hz]; split <;> omega
    have hce : Try.prog.cellsOf 43 = 7 := by kernel_rfl
    rw [hce] at hcell
    have hall : ∀ j, ∃ (y : Value × Et), j < len → (∀ i (hi : i < 7), W.cell? ((x.add (j * 7)).add i) = some ((e7 y.1 y.2.2)[i]'hi)) ∧ Reads W y.1 y.2.1 ∧ AgOk y.2.2 := by
      intro j
      by_cases hj : j < len
      · obtain ⟨cs', hc1, hc2⟩ := hcell j (by omega)
        obtain ⟨_, hl7, hq⟩ := World.cells?_some hc1
        obtain ⟨c0, c1, c2, c3, c4, c5, c6, rfl⟩ := seven_of hl7
        obtain ⟨kv, k, a, e, hr, ha⟩ := openT' hc2
        refine ⟨(kv, k, a), fun _ => ⟨fun i hi => ?_, hr, ha⟩⟩
        have h1 := hq i hi
        rw [e, List.getElem?_eq_getElem (show i < (e7 kv a).length from hi)] at h1
        exact h1
      · exact ⟨(.bool false, [], aZ), fun h => absurd h hj⟩
    obtain ⟨ys, hys⟩ := Classical.axiomOfChoice hall
    refine ⟨(List.range len).map fun j => (ys j).2, some x, cap, by simp, by simp; omega, by omega, fun j hj => ?_⟩
    simp at hj
    obtain ⟨g1, g2, g3⟩ := hys j hj
    have e : ((List.range len).map fun j => (ys j).2)[j]'(by simpa using hj) = (ys j).2 := by simp
    rw [e]
    obtain ⟨b, off, spot⟩ := x
    have hs : spot = none := by
      cases spot with
      | none => rfl
      | some z =>
        exfalso
        obtain ⟨k0, _⟩ := hys 0 (by omega)
        have k1 := k0 0 (by decide)
        have e0 : ((⟨b, off, some z⟩ : Addr).add (0 * 7)).add 0 = ⟨b, off, some z⟩ := by simp [Addr.add]
        rw [e0] at k1
        have := (cell_block k1).2
        simp at this
    subst hs
    have ea : (⟨b, off, none⟩ : Addr).add (j * 7) = ⟨b, off + j * 7, none⟩ := by simp [Addr.add]
    have eb : ∀ i, (⟨b, off + j * 7, none⟩ : Addr).add i = ⟨b, off + j * 7 + i, none⟩ := fun i => by simp [Addr.add]
    have hb : b < W.heap.size := by
      have := g1 0 (by decide)
      rw [ea, eb] at this
      exact (cell_block this).1
    refine ⟨b, off, (ys j).1, rfl, hb, fun i hi => ?_, g2, g3⟩
    have := g1 i hi
    rwa [ea, eb] at this
end Go.Proofs.Ytlpjdfgknmfmnaa

/- table: Open of an empty table; alive. -/
namespace Go.Proofs.Ytlpjdfgknmfmnaa
open Go.RowKit

theorem row_formS {w : World} {base n size : Nat} {e : TypeId} {v : Value} {xs : List Value} (h : w.ownsRow base e size v n xs) : ∃ a c, v = .slice a n c := by
  rcases h.2 with ⟨h1, h2⟩ | ⟨g, cap, cur, h1, _⟩
  · exact ⟨none, 0, by rw [h1, h2]⟩
  · exact ⟨_, cap, h1⟩
/-- A slice of slices of bytes. -/
def DsR (w : World) (v : Value) (ds : List (List UInt8)) : Prop :=
  ∃ a cap, v = .slice a ds.length cap ∧ ds.length ≤ maxLen ∧ ∀ j (hj : j < ds.length), ∃ g u, a = some ⟨g, 0, none⟩ ∧ g < w.heap.size ∧ w.cell? ⟨g, j, none⟩ = some u ∧ Reads w u ds[j]
theorem DsR.form {w : World} {v : Value} {ds : List (List UInt8)} (h : DsR w v ds) : ∃ a cap, v = .slice a ds.length cap ∧ ds.length ≤ maxLen := by
  obtain ⟨a, cap, h1, h2, _⟩ := h
  exact ⟨a, cap, h1, h2⟩
theorem DsR.at {w : World} {a : Option Addr} {n cap : Nat} {ds : List (List UInt8)} (h : DsR w (.slice a n cap) ds) {j : Nat} (hj : j < ds.length) {d : List UInt8} (hd : d = ds[j]) : ∃ g u, a = some ⟨g, 0, none⟩ ∧ g < w.heap.size ∧ w.cell? ⟨g, j, none⟩ = some u ∧ Reads w u d := by
  subst hd
  obtain ⟨a', cap', e, _, h3⟩ := h
  cases e
  exact h3 j hj
theorem dsr_of {w : World} {base : Nat} {vl : Value} {xs : List Fr} (h : w.ownsRow base 25 1 vl xs.length (xs.map Fr.v)) (hx : ∀ x ∈ xs, Own w base x.v x.D) : DsR w vl (xs.map Fr.D) := by
  have h' : w.ownsRow base 25 1 vl (xs.map Fr.v).length (xs.map Fr.v) := by rw [List.length_map]; exact h
  rcases Nat.eq_zero_or_pos xs.length with h0 | h0
  · obtain ⟨a, c, hv⟩ := row_formS h
    have : xs = [] := List.length_eq_zero_iff.1 h0
    subst this
    exact ⟨a, c, hv, Nat.zero_le _, fun j hj => by simp at hj⟩
  · obtain ⟨g, cap, hv, _, hg, hc⟩ := row_at h' (by simpa using h0)
    have hm : xs.length ≤ maxLen := by
      rcases h.2 with ⟨_, q⟩ | ⟨g', cap', cur, _, _, _, q1, q2, _⟩
      · rw [q]; exact Nat.zero_le _
      · exact Nat.le_trans q1 q2
    refine ⟨_, cap, by simpa using hv, by simpa using hm, fun j hj => ?_⟩
    simp only [List.length_map] at hj
    refine ⟨g, xs[j].v, rfl, hg, by have := hc j (by simpa using hj); simpa using this, ?_⟩
    have := (hx xs[j] (List.getElem_mem hj)).reads
    simpa using this
theorem l3 {α : Type} : ∀ {l : List α}, l.length = 3 → ∃ a b c, l = [a, b, c]
  | [a, b, c], _ => ⟨a, b, c, rfl⟩
/-- An empty table's bytes. -/
def e42 : List UInt8 := frm [] ++ frm [6, 0] ++ frm [0, 0, 0, 0, 0, 0, 0, 0, 0, 0, 0, 0, 0, 0, 0, 0]
theorem e42_len : e42.length = 42 := by unfold e42; rw [List.length_append, List.length_append, frm_len, frm_len, frm_len]; rfl
theorem e42_all : alF (e42.length + 1) e42 = [([], 8), ([6, 0], 10), ([0, 0, 0, 0, 0, 0, 0, 0, 0, 0, 0, 0, 0, 0, 0, 0], 24)] := by
  rw [e42_len]
  unfold e42
  rw [List.append_assoc, alF_frm _ _ _ (by simp), alF_frm _ _ _ (by simp)]
  have := alF_frm 40 [0, 0, 0, 0, 0, 0, 0, 0, 0, 0, 0, 0, 0, 0, 0, 0] [] (by simp)
  rw [List.append_nil] at this
  rw [this]
  have e3 : alF 40 [] = [] := by rw [alF, if_neg (by simp [nxF])]
  rw [e3]
  rfl
theorem first_zero (a0 a : Option Addr) (c0 n c : Nat) (m : Int) (w : World) : Calls Try.prog 33 #[.slice a0 0 c0, .slice a n c, .int .i64 m] w fun e w' => e = .returned (.slice none 0 0) ∧ Below w.heap.size w w' := by
  go_enter Try.func33, Try.ntmps33
  go_wp2_with fail
  go_loopw [7, 18] (fun o i wr => wr = w ∧ o = .slice none 0 0 ∧ i = .int .i64 0) (fun _ _ _ => 0)
  case atStart => exact ⟨rfl, rfl, rfl⟩
  case round =>
    obtain ⟨rfl, rfl, rfl⟩ := hrel
    go_wp2_with fail
    go_ret
    exact ⟨rfl, Below.refl _ _⟩
theorem mkP : ∀ w, (Instr.makeSlice 71 (.int .i64 0) (.int .i64 0)).run Try.prog w = .ok (.slice (some ⟨w.heap.size, 0, none⟩) 0 0) (w.alloc (.cells #[] 73)) := fun _ => by kernel_rfl
/-- An open table that has nothing. -/
def TE (w : World) (B : Nat) (fv : Value) : Prop := (∃ a c, w.heap[B]? = some (.cells #[.slice a 0 c, fv, .int .i64 0] 84)) ∧ ∃ base, Fil w base fv 6 [0]
theorem TE.below {w w' : World} {B : Nat} {fv : Value} (h : TE w B fv) (hb : Below w.heap.size w w') : TE w' B fv := by
  obtain ⟨⟨a, c, h1⟩, base, h2⟩ := h
  exact ⟨⟨a, c, (hb.block _ (Array.getElem?_eq_some_iff.1 h1).1).trans h1⟩, base, h2.below hb⟩
set_option maxRecDepth 100000 in
set_option maxHeartbeats 2000000 in
theorem topen_nil (w : World) : Calls Try.prog 10 #[.slice none 0 0] w fun e w' => e = .returned (.tuple #[.pointer none, .int .i64 70]) ∧ Below w.heap.size w w' := by
  have hA := all_any (.slice none 0 0) [] (by simp) w (.inl ⟨rfl, none, 0, rfl, fun _ => rfl⟩)
  rw [show alF (([] : List UInt8).length + 1) [] = [] from by rw [alF, if_neg (by simp [nxF])]] at hA
  have HA : Hid (Calls Try.prog 32 #[.slice none 0 0] w _) := hA
  clear hA
  go_enter Try.func10, Try.ntmps10
  go_wp2_with fail
  refine HA.out.mono ?_
  rintro e w1 ⟨vl, xs, rfl, hxs, hrow, hown, hb1⟩
  obtain rfl : xs = [] := by cases xs with
    | nil => rfl
    | cons x xs => simp at hxs
  obtain ⟨a, c, hv⟩ := row_formS hrow
  subst hv
  have HB1 : Hid (Below w.heap.size w w1) := hb1
  clear hrow hown hxs hb1 HA
  simp only [List.length_nil, ksum, List.map_nil, List.sum_nil]
  go_wp2_with fail
  go_ret2
  exact ⟨rfl, HB1.out⟩
set_option maxRecDepth 100000 in
set_option maxHeartbeats 4000000 in
theorem topen_e42 (v : Value) (w : World) (hR : Reads w v e42) : Calls Try.prog 10 #[v] w fun e w' => ∃ B fv, e = .returned (.tuple #[.pointer (some ⟨B, 0, none⟩), .int .i64 0]) ∧ TE w' B fv ∧ Below w.heap.size w w' := by
  obtain ⟨ba, bc9, rfl, _⟩ := hR.form
  have hA := all_any _ e42 (by rw [e42_len]; decide) w hR
  rw [e42_all, e42_len] at hA
  have HR : Hid (Reads w (.slice ba 42 bc9) e42) := by have := hR; rw [e42_len] at this; exact this
  have HA : Hid (Calls Try.prog 32 #[.slice ba 42 bc9] w _) := hA
  rw [e42_len]
  clear hA hR
  go_enter Try.func10, Try.ntmps10
  go_wp2_with fail
  refine HA.out.mono ?_
  rintro e w1 ⟨vl, xs, rfl, hxs, hrow, hown, hb1⟩
  have hD := dsr_of hrow hown
  have hl3 : xs.length = 3 := by have := congrArg List.length hxs; simpa using this
  obtain ⟨x0, x1, x2, rfl⟩ := l3 hl3
  simp only [List.map_cons, List.map_nil, List.cons.injEq, and_true, Fr.p, Prod.mk.injEq] at hxs
  obtain ⟨⟨d0, _⟩, ⟨d1, _⟩, _⟩ := hxs
  simp only [List.map_cons, List.map_nil] at hD
  rw [d0, d1] at hD
  obtain ⟨fa, fc, hv, _⟩ := hD.form
  subst hv
  obtain ⟨g, u0, hfa, hg, hc0, hr0⟩ := hD.at (j := 0) (by simp) rfl
  obtain ⟨g', u1, hfa', _, hc1, hr1⟩ := hD.at (j := 1) (by simp) rfl
  subst hfa
  simp only [Option.some.injEq, Addr.mk.injEq, and_true] at hfa'
  subst hfa'
  have HB1 : Hid (Below w.heap.size w w1) := hb1
  have HC : Hid (g < w1.heap.size ∧ w1.cell? ⟨g, 0, none⟩ = some u0 ∧ w1.cell? ⟨g, 1, none⟩ = some u1) := ⟨hg, hc0, hc1⟩
  have HR0 : Hid (Reads w1 u0 []) := hr0
  have HR1 : Hid (Reads w1 u1 [6, 0]) := hr1
  obtain ⟨ua, uc, hu0, _⟩ := hr0.form
  obtain ⟨va, vc, hu1, _⟩ := hr1.form
  subst hu0
  subst hu1
  obtain ⟨KS, HKS⟩ := hid_ex (ksum [(([] : List UInt8), 8), ([6, 0], 10), ([0, 0, 0, 0, 0, 0, 0, 0, 0, 0, 0, 0, 0, 0, 0, 0], 24)])
  rw [← HKS.out]
  simp only [List.length_cons, List.length_nil, Nat.reduceAdd]
  clear hrow hown hb1 hD hg hc0 hc1 hr0 hr1 d0 d1 HA
  have hmk := mkP
  go_wp2_with fail
  obtain ⟨w2, HW2⟩ := hid_ex (w1.alloc (.cells #[] 73))
  have hb2 : Below w1.heap.size w1 w2 := by rw [HW2.out]; exact (Below.refl _ _).alloc (Nat.le_refl _) _
  have HB2 : Hid (Below w1.heap.size w1 w2) := hb2
  rw [← HW2.out]
  clear HW2 hb2
  go_loopw [32] (fun i wr => wr = w2 ∧ i = .int .i64 0) (fun _ _ => 0)
  case atStart => exact ⟨rfl, rfl⟩
  case round =>
    obtain ⟨rfl, rfl⟩ := hrel
    go_wp2_with fail
    refine (first_zero _ _ _ _ _ _ _).mono ?_
    rintro e w3 ⟨rfl, hb3⟩
    have HB3 : Hid (Below w1.heap.size w1 w3) := HB2.out.trans (hb3.mono HB2.out.size)
    clear hb3
    go_wp2_with fail
    refine (twrite_nil _).mono ?_
    rintro e w4 ⟨v4, rfl, ho4, hb4⟩
    have HB4 : Hid (Below w1.heap.size w1 w4) := HB3.out.trans (hb4.mono HB3.out.size)
    have hEq := equal_any v4 (.slice ba 42 bc9) e42 e42 w4 ho4.reads (HR.out.below (HB1.out.trans (HB4.out.mono HB1.out.size)))
    obtain ⟨a4, c4, hv4, _⟩ := ho4.form
    subst hv4
    have e4 : (frm [] ++ frm [6, 0] ++ frm [0, 0, 0, 0, 0, 0, 0, 0, 0, 0, 0, 0, 0, 0, 0, 0]).length = 42 := e42_len
    rw [e4] at hEq ⊢
    rw [show decide (e42 = e42) = true from decide_eq_true rfl] at hEq
    have HEq : Hid (Calls Try.prog 34 #[.slice a4 42 c4, .slice ba 42 bc9] w4 _) := hEq
    clear ho4 hb4 hEq e4
    go_wp2_with fail
    refine HEq.out.mono ?_
    clear HEq
    rintro e w5 ⟨rfl, rfl⟩
    have hq0 : w5.cell? ⟨g, 0, none⟩ = some (.slice ua ([] : List UInt8).length uc) := (HB4.out.cell HC.out.1).trans HC.out.2.1
    have hq1 : w5.cell? ⟨g, 1, none⟩ = some (.slice va [6, (0 : UInt8)].length vc) := (HB4.out.cell HC.out.1).trans HC.out.2.2
    simp only [List.length_cons, List.length_nil, Nat.reduceAdd] at hq0 hq1
    have hRd := read_any (.slice ua 0 uc) [] (by simp) w5 (HR0.out.below HB4.out)
    have HRd : Hid (Calls Try.prog 35 #[.slice ua 0 uc] w5 _) := hRd
    clear hRd
    go_wp2_with fail
    refine HRd.out.mono ?_
    clear HRd
    rintro e w6 ⟨hb6, hrd⟩
    rw [show rdB [] = some [] from by decide] at hrd
    obtain ⟨u6, xs6, rfl, hx6, ho6⟩ := hrd
    obtain rfl : xs6 = [] := by cases xs6 with
      | nil => rfl
      | cons x xs => simp at hx6
    obtain ⟨a6, c6, hu6⟩ := row_formS ho6.1
    subst hu6
    have HB6 : Hid (Below w1.heap.size w1 w6) := HB4.out.trans (hb6.mono HB4.out.size)
    have hq6 : w6.cell? ⟨g, 1, none⟩ = some (.slice va 2 vc) := by
      have := (HB6.out.cell HC.out.1).trans HC.out.2.2
      simpa using this
    clear ho6 hx6 hb6 hq0 hq1
    simp only [List.length_nil]
    go_wp2_with fail
    go_loopw [69] (fun i wr => wr = w6 ∧ i = .int .i64 0) (fun _ _ => 0)
    case atStart => exact ⟨rfl, rfl⟩
    case round =>
      obtain ⟨rfl, rfl⟩ := hrel
      have hFr := read_ok (.slice va 2 vc) [6, 0] wr (HR1.out.below HB6.out) (by unfold rdOk; decide)
      have HFr : Hid (Calls Try.prog 36 #[.slice va 2 vc] wr _) := hFr
      clear hFr
      go_wp2_with fail
      refine HFr.out.mono ?_
      clear HFr
      rintro e w7 ⟨v7, rfl, hfil, hb7⟩
      have HB7 : Hid (Below w.heap.size w w7) := HB1.out.trans ((HB6.out.trans (hb7.mono HB6.out.size)).mono HB1.out.size)
      obtain ⟨B7, hv7⟩ := hfil.ptr
      subst hv7
      have HFil : Hid (Fil w7 wr.heap.size (.pointer (some ⟨B7, 0, none⟩)) 6 [0]) := hfil
      clear hfil hb7 hq6
      go_wp2_with fail
      go_ret2
      exact ⟨w7.heap.size, _, rfl, ⟨⟨_, _, heap_alloc_new _ _⟩, _, HFil.out.below ((Below.refl _ _).alloc (Nat.le_refl _) _)⟩, HB7.out.alloc HB7.out.size _⟩
/-- alive. -/
theorem tlen_te {w : World} {B : Nat} {fv : Value} (h : TE w B fv) : Calls Try.prog 13 #[.pointer (some ⟨B, 0, none⟩)] w fun e w' => e = .returned (.int .i64 0) ∧ w' = w := by
  obtain ⟨⟨a, c, hB⟩, _⟩ := h
  have z2 : w.cell? ⟨B, 2, none⟩ = some (.int .i64 0) := by simp [World.cell?, hB]
  go_enter Try.func13, Try.ntmps13
  go_wp2_with fail
  go_ret
  exact ⟨rfl, rfl⟩
theorem tmay_te {w : World} {B : Nat} {fv : Value} (h : TE w B fv) (kv : Value) (key : List UInt8) (hR : Reads w kv key) (hk : myF [0] (plc key 8 6) = false) : Calls Try.prog 14 #[.pointer (some ⟨B, 0, none⟩), kv] w fun e w' => e = .returned (.bool false) ∧ Below w.heap.size w w' := by
  obtain ⟨⟨a, c, hB⟩, base, hF⟩ := h
  have hM := may_any fv kv 6 [0] key w base hF hR
  rw [show 8 * ([0] : List UInt8).length = 8 from rfl, hk] at hM
  obtain ⟨B2, hv⟩ := hF.ptr
  subst hv
  have z1 : w.cell? ⟨B, 1, none⟩ = some (.pointer (some ⟨B2, 0, none⟩)) := by simp [World.cell?, hB]
  obtain ⟨ka, kc, rfl, _⟩ := hR.form
  have HM : Hid (Calls Try.prog 47 #[.pointer (some ⟨B2, 0, none⟩), .slice ka key.length kc] w _) := hM
  clear hM hF hR hB
  go_enter Try.func14, Try.ntmps14
  go_wp2_with fail
  refine HM.out.mono ?_
  rintro e w1 ⟨rfl, hb⟩
  go_wp2_with fail
  go_ret
  exact ⟨rfl, hb⟩
theorem my_a : myF [0] (plc [97] 8 6) = false := by decide
end Go.Proofs.Ytlpjdfgknmfmnaa

/- The mark of a constant text. -/
namespace Go.Proofs.Ytlpjdfgknmfmnaa
open Go.RowKit

/-- What is kept from one operation of a region to the next. -/
structure Rm (w w' : World) : Prop where
  s : w.heap.size ≤ w'.heap.size
  c : ∀ a v, w.cell? a = some v → w'.cell? a = some v
  h : ∀ g s, w.shape? g = some s → w'.shape? g = some s
theorem Reads.rm {w w' : World} {v : Value} {l : List UInt8} (h : Reads w v l) (r : Rm w w') : Reads w' v l := by
  rcases h with h | ⟨b, off, cap, h1, h2, h3, h4, h5, h6⟩
  · exact .inl h
  · exact .inr ⟨b, off, cap, h1, h2, h3, h4, Nat.lt_of_lt_of_le h5 r.s, fun j hj => r.c _ _ (h6 j hj)⟩
def frz : Obj → Obj
  | .cells c e (lo, hi) => .cells c e (if (lo == hi) = true then (1, 2) else (min lo 1, max hi 2))
  | o => o
theorem freeze_heap (w : World) (g k : Nat) : (w.freeze ⟨g, 1, none⟩ 1).heap[k]? = if g = k then (w.heap[k]?).map frz else w.heap[k]? := by
  unfold World.freeze
  rw [if_neg (by decide)]
  show (w.heap.modify g _)[k]? = _
  rw [Array.getElem?_modify]
  rfl
/-- The mark of a constant text's bytes. -/
theorem run_mark {w : World} {g : Nat} (h : w.shape? g = some (5, 1)) : ∃ w', (convert 25 25 (.slice (some ⟨g, 0, none⟩) 1 1)).run Try.prog w = .ok (.slice (some ⟨g, 0, none⟩) 1 1) w' ∧ Rm w w' ∧ ∀ B, B ≤ g → Below B w w' := by
  refine ⟨w.freeze ⟨g, 1, none⟩ 1, ?_, ?_, ?_⟩
  · simp [convert, run_underlying Try.underlying25, run_underlying Try.underlying5, markStringish, h]
  · refine ⟨by simp [World.freeze], fun a v q => ?_, fun k s q => ?_⟩
    · unfold World.cell? at q ⊢
      rw [freeze_heap]
      cases hk : w.heap[a.block]? with
      | none => rw [hk] at q; cases q
      | some o =>
        rw [hk] at q
        by_cases e : g = a.block
        · rw [if_pos e]
          cases o with
          | cells c el fr =>
            obtain ⟨f1, f2⟩ := fr
            exact q
          | _ => cases q
        · rw [if_neg e]; exact q
    · unfold World.shape? at q ⊢
      rw [freeze_heap]
      cases hk : w.heap[k]? with
      | none => rw [hk] at q; cases q
      | some o =>
        rw [hk] at q
        by_cases e : g = k
        · rw [if_pos e]
          cases o with
          | cells c el fr =>
            obtain ⟨f1, f2⟩ := fr
            exact q
          | _ => cases q
        · rw [if_neg e]; exact q
  · intro B hB
    exact ⟨rfl, rfl, rfl, by simp [World.freeze], fun k hk => by rw [freeze_heap, if_neg (by omega)]⟩
end Go.Proofs.Ytlpjdfgknmfmnaa
