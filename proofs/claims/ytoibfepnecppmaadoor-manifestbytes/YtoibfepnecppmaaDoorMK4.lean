/- MF5 MF6 MF7 MF8, joined. -/
import Derived.Test.YtoibfepnecppmaaDoorMK1
import Derived.Test.YtoibfepnecppmaaDoorMK3
/- manifest: Read's own 'number'. -/
namespace Go.Proofs.YtoibfepnecppmaaDoor
open Go.RowKit

/-- The value of 'next'. -/
def nxV (R D : Nat) : Value := .func (.func 20) #[] #[.pointer (some ⟨R, 0, none⟩), .pointer (some ⟨D, 0, none⟩)]
set_option maxRecDepth 100000 in
set_option maxHeartbeats 1000000 in
theorem number2_any (O : Nat → Prop) (P R D : Nat) (T : TypeId) (q : Bool × List UInt8) (w : World) (h : NxI w O R D q) (hP : w.heap[P]? = some (.cells #[nxV R D] T)) :
    Calls Tryd.prog 22 #[.pointer (some ⟨P, 0, none⟩)] w fun e w' => e = .returned (.int .i64 (stp big q).1) ∧ NxI w' O R D (stp big q).2 ∧ Onl (Bx R D) w w' := by
  have HC : Hid (Calls Tryd.prog 20 #[.int .u64 9223372036854775807, .pointer (some ⟨R, 0, none⟩), .pointer (some ⟨D, 0, none⟩)] w fun e w' => e = .returned (.int .i64 (stp big q).1) ∧ NxI w' O R D (stp big q).2 ∧ Onl (Bx R D) w w') := next1_any big (by decide) O R D q w h
  obtain ⟨c0, f0⟩ := cellB hP
  obtain ⟨S, HS⟩ := hid_ex (stp big q)
  rw [← HS.out] at HC ⊢
  unfold nxV at c0
  clear h hP HS
  go_enter Tryd.func22, Tryd.ntmps22
  go_wp2_with fail
  refine HC.out.mono ?_
  rintro e w1 ⟨rfl, h1, h2⟩
  have H1 : Hid (NxI w1 O R D S.2) := h1
  have H2 : Hid (Onl (Bx R D) w w1) := h2
  clear h1 h2 c0 f0
  go_wp2_with fail
  go_ret
  exact ⟨rfl, H1.out, H2.out⟩
end Go.Proofs.YtoibfepnecppmaaDoor

/- manifest: numbers in a row, and their bytes. -/
namespace Go.Proofs.YtoibfepnecppmaaDoor
open Go.RowKit

/-- A slice of numbers. -/
def JR (w : World) (v : Value) (l : List Int) : Prop := ∃ a cap, v = .slice a l.length cap ∧ l.length ≤ maxLen ∧ ∀ j (hj : j < l.length), ∃ b off, a = some ⟨b, off, none⟩ ∧ b < w.heap.size ∧ w.cell? ⟨b, off + j, none⟩ = some (.int .i64 l[j])
theorem JR.form {w : World} {v : Value} {l : List Int} (h : JR w v l) : ∃ a cap, v = .slice a l.length cap ∧ l.length ≤ maxLen := by
  obtain ⟨a, cap, h1, h2, _⟩ := h
  exact ⟨a, cap, h1, h2⟩
theorem JR.below {w w' : World} {v : Value} {l : List Int} (h : JR w v l) (hb : Below w.heap.size w w') : JR w' v l := by
  obtain ⟨a, cap, h1, h2, h3⟩ := h
  refine ⟨a, cap, h1, h2, fun j hj => ?_⟩
  obtain ⟨b, off, q1, q2, q3⟩ := h3 j hj
  exact ⟨b, off, q1, Nat.lt_of_lt_of_le q2 hb.size, (hb.cell (p := ⟨b, off + j, none⟩) q2).trans q3⟩
theorem JR.at {w : World} {a : Option Addr} {n cap : Nat} {l : List Int} (h : JR w (.slice a n cap) l) {j : Nat} (hj : j < l.length) {x : Int} (hx : x = l[j]) : ∃ b off, a = some ⟨b, off, none⟩ ∧ b < w.heap.size ∧ w.cell? ⟨b, off + j, none⟩ = some (.int .i64 x) := by
  subst hx
  obtain ⟨a', cap', e, _, h3⟩ := h
  cases e
  exact h3 j hj
theorem shB_take {l : List Int} {j : Nat} (hj : j < l.length) {x : Int} (hx : x = l[j]) : shB (l.take (j + 1)) = shB (l.take j) ++ sh x.toNat := by
  rw [List.take_add_one, List.getElem?_eq_getElem hj, shB_app]
  subst hx
  simp [shB]
theorem sh_le10 : ∀ (k n : Nat), n < 128 ^ (k + 1) → (sh n).length ≤ k + 1
  | 0, n, h => by rw [sh_lo (by simpa using h)]; simp
  | k + 1, n, h => by
    rw [sh]
    split
    · simp
    · have := sh_le10 k (n / 128) (by rw [Nat.div_lt_iff_lt_mul (by decide)]; rw [Nat.pow_succ] at h; exact h)
      simp only [List.length_cons]; omega
theorem shB_len : ∀ (l : List Int), (∀ v ∈ l, 0 ≤ v ∧ v ≤ 9223372036854775807) → (shB l).length ≤ 10 * l.length
  | [], _ => by simp [shB]
  | v :: l, h => by
    have ih := shB_len l fun x hx => h x (List.mem_cons_of_mem _ hx)
    have hv := h v (List.mem_cons_self ..)
    have := sh_le10 9 v.toNat (by have : (128 : Nat) ^ (9 + 1) = 1180591620717411303424 := by decide
                                  omega)
    rw [shB_cons, List.length_append, List.length_cons]; omega
set_option maxRecDepth 100000 in
set_option maxHeartbeats 1000000 in
theorem short13_any (v : Value) (l : List Int) (hl : l.length ≤ 100000) (hb : ∀ x ∈ l, 0 ≤ x ∧ x ≤ 9223372036854775807) (w : World) (h : JR w v l) :
    Calls Tryd.prog 16 #[v] w fun e w' => ∃ v', e = .returned v' ∧ Own w' w.heap.size v' (shB l) ∧ Below w.heap.size w w' := by
  obtain ⟨a, cap, rfl, hm⟩ := h.form
  have HV : Hid (JR w (.slice a l.length cap) l) := h
  have HBn : Hid (∀ x ∈ l, 0 ≤ x ∧ x ≤ 9223372036854775807) := hb
  clear h hb
  go_enter Tryd.func16, Tryd.ntmps16
  go_wp2_with fail
  go_loopw [3, 8] (fun o i wr => ∃ j : Nat, i = .int .i64 (j : Int) ∧ j ≤ l.length ∧ Hid (Own wr w.heap.size o (shB (l.take j))) ∧ Hid (Below w.heap.size w wr)) (fun _ i _ => l.length - (intOf i).toNat)
  case atStart => exact ⟨0, rfl, by omega, Own.nil _ _, Below.refl _ _⟩
  case round =>
    obtain ⟨j, rfl, hj, HO, HB⟩ := hrel
    by_cases hlt : j < l.length
    · have hlt' : (j : Int) < (l.length : Int) := by omega
      obtain ⟨x, Hx⟩ := hid_ex l[j]
      obtain ⟨b, off, rfl, hbw, c0⟩ := (HV.out.below HB.out).at hlt Hx.out
      have hx := HBn.out x (by rw [Hx.out]; exact List.getElem_mem hlt)
      have HT : Hid (shB (l.take (j + 1)) = shB (l.take j) ++ sh x.toNat) := shB_take hlt Hx.out
      have hln : (shB (l.take j)).length ≤ 10 * l.length := by
        have h1 := shB_len (l.take j) fun y hy => HBn.out y (List.mem_of_mem_take hy)
        have h2 := List.length_take_le' j l
        omega
      have hl2 : (sh x.toNat).length ≤ 10 := sh_le10 9 x.toNat (by have : (128 : Nat) ^ (9 + 1) = 1180591620717411303424 := by decide
                                                                   omega)
      obtain ⟨n, rfl⟩ : ∃ n : Nat, x = (n : Int) := ⟨x.toNat, by omega⟩
      simp only [Int.toNat_natCast] at HT hl2
      have hwr : IntKind.u64.wrap (n : Int) = (n : Int) := by simp [IntKind.wrap, IntKind.bits, IntKind.signed]; omega
      obtain ⟨oa, oc, hov, _⟩ := HO.out.form
      obtain ⟨M, HM⟩ := hid_ex (shB (l.take j))
      rw [← HM.out] at HO hov hln HT
      subst hov
      clear HM
      go_wp2_with fail
      refine (short_any n (by omega) _).mono ?_
      rintro e w2 ⟨sv, rfl, hs, hb2⟩
      have HO2 : Hid (Own w2 w.heap.size (.slice oa M.length oc) M) := HO.out.below hb2
      have HSr : Hid (Reads w2 sv (sh n)) := Own.reads hs
      have HB2 : Hid (Below w.heap.size w w2) := HB.out.trans (hb2.mono HB.out.size)
      obtain ⟨sa, sc, hsv, _⟩ := HSr.out.form
      subst hsv
      clear hs hb2
      go_wp2_with (at_builtin; refine wpList_app rfl _ _ rfl w.heap.size _ _ M (sh n) _ rfl rfl rfl HO2.out HSr.out (by omega) HB2.out.size ?_; intro v3 w3 ho3 hb3; have HO3 : Hid (Own w3 w.heap.size v3 (shB (l.take (j + 1)))) := (by unfold Hid; rw [HT.out]; exact ho3); have HB3 : Hid (Below w.heap.size w w3) := HB2.out.trans hb3.out; clear ho3 hb3)
      go_roundw
      case rel => exact ⟨j + 1, by go_num, by omega, HO3, HB3⟩
      case measure => simp [intOf]; omega
    · have hlt' : ¬ (j : Int) < (l.length : Int) := by omega
      have HE : Hid (Own wr w.heap.size u3 (shB l)) := by
        have := HO.out
        rwa [List.take_of_length_le (by omega)] at this
      go_wp2_with fail
      go_ret
      exact ⟨_, rfl, HE.out, HB.out⟩
end Go.Proofs.YtoibfepnecppmaaDoor

/- manifest: slices.Min of numbers. -/
namespace Go.Proofs.YtoibfepnecppmaaDoor
open Go.RowKit

theorem okN_snoc {l : List Int} {j : Nat} (hj : j < l.length) {x : Int} (hx : x = l[j]) : okN (l.take (j + 1)) = (okN (l.take j) && decide (0 ≤ x)) := by
  unfold okN
  rw [List.take_add_one, List.getElem?_eq_getElem hj, List.all_append]
  subst hx
  simp
set_option maxRecDepth 100000 in
set_option maxHeartbeats 1000000 in
theorem min13_any (v : Value) (l : List Int) (h0 : 0 < l.length) (w : World) (h : JR w v l) :
    Calls Tryd.prog 15 #[v] w fun e w' => ∃ m : Int, e = .returned (.int .i64 m) ∧ decide (0 ≤ m) = okN l ∧ w' = w := by
  obtain ⟨a, cap, rfl, hm⟩ := h.form
  unfold maxLen at hm
  have HV : Hid (JR w (.slice a l.length cap) l) := h
  obtain ⟨x0, Hx0⟩ := hid_ex l[0]
  obtain ⟨b, off, rfl, hbw, c0⟩ := h.at h0 Hx0.out
  have hn1 : ¬ (l.length : Int) < 1 := by omega
  have hn0 : (0 : Int) < (l.length : Int) := by omega
  have HO1 : Hid (decide (0 ≤ x0) = okN (l.take 1)) := by
    unfold Hid
    have := okN_snoc (l := l) (j := 0) h0 Hx0.out
    rw [this]; simp [okN]
  rw [Nat.add_zero] at c0
  clear h
  go_enter Tryd.func15, Tryd.ntmps15
  go_wp2_with fail
  go_loopw [3, 4] (fun m i wr => ∃ (j : Nat) (mm : Int), m = .int .i64 mm ∧ i = .int .i64 (j : Int) ∧ j ≤ l.length ∧ Hid (decide (0 ≤ mm) = okN (l.take j)) ∧ wr = w) (fun _ i _ => l.length - (intOf i).toNat)
  case atStart => exact ⟨1, x0, rfl, rfl, by omega, HO1, rfl⟩
  case round =>
    obtain ⟨j, mm, rfl, rfl, hj, HO, rfl⟩ := hrel
    by_cases hlt : j < l.length
    · have hlt' : (j : Int) < (l.length : Int) := by omega
      obtain ⟨x, Hx⟩ := hid_ex l[j]
      obtain ⟨b2, off2, e2, _, c1⟩ := HV.out.at hlt Hx.out
      simp only [Option.some.injEq, Addr.mk.injEq] at e2
      obtain ⟨rfl, rfl, _⟩ := e2
      have HT : Hid (okN (l.take (j + 1)) = (decide (0 ≤ mm) && decide (0 ≤ x))) := by unfold Hid; rw [okN_snoc hlt Hx.out, HO.out]
      go_wp2_with fail
      go_roundw
      case rel => exact ⟨j + 1, _, rfl, by go_num, by omega, by unfold Hid; rw [HT.out, ← Bool.decide_and]; congr 1; apply propext; omega, trivial⟩
      case measure => simp [intOf]; omega
    · have hlt' : ¬ (j : Int) < (l.length : Int) := by omega
      have HE : Hid (decide (0 ≤ mm) = okN l) := by
        have := HO.out
        rwa [List.take_of_length_le (by omega)] at this
      go_wp2_with fail
      go_ret
      exact ⟨_, rfl, HE.out, rfl⟩
end Go.Proofs.YtoibfepnecppmaaDoor

/- manifest: rows of numbers that grow; runs in memory. -/
namespace Go.Proofs.YtoibfepnecppmaaDoor
open Go.RowKit

def ji (x : Int) : Value := .int .i64 x
/-- A row of numbers of one's own. -/
def JO (w : World) (v : Value) (l : List Int) : Prop := GOwn w 2 1 v l.length (l.map ji)
theorem infoJ : (Tryd.prog.info? 2).map (fun i => (i.zero, i.size, i.bytes)) = some (some (.int .i64 0), 1, 8) := by kernel_rfl
theorem JO.jr {w : World} {v : Value} {l : List Int} (h : JO w v l) : JR w v l := by
  have hc := @GOwn.cells _ _ _ _ _ _ h
  rcases h.2 with ⟨rfl, h0⟩ | ⟨g, cap, cur, rfl, h3, h4, h5, h6, h7⟩
  · exact ⟨none, 0, by rw [h0], by rw [h0]; exact Nat.zero_le _, fun j hj => by omega⟩
  · refine ⟨_, cap, rfl, Nat.le_trans h4 h5, fun j hj => ⟨g, 0, rfl, (Array.getElem?_eq_some_iff.1 h3).1, ?_⟩⟩
    have := hc (g := g) rfl j (ji l[j]) (by simp [hj])
    have ea : (⟨g, 0, none⟩ : Addr).add j = ⟨g, 0 + j, none⟩ := by simp [Addr.add]; omega
    rw [ea] at this
    exact this
/-- append of some numbers that stand in a new block. -/
theorem run_appJ {w : World} (ty : TypeId) (v : Value) (l ns : List Int) (h : JO w v l) (hk : ∀ k, v.ownBlock = some k → k < w.heap.size) (hl : l.length + ns.length < 1099511627776) :
    ∃ v' w', (Builtin.append_ #[53, 53] ty #[v, .slice (some ⟨w.heap.size, 0, none⟩) ns.length ns.length]).run Tryd.prog (w.alloc (.cells (ns.map ji).toArray 2)) = .ok v' w' ∧ JO w' v' (l ++ ns) ∧ (w.alloc (.cells (ns.map ji).toArray 2)).grownBy w' v.ownBlock ∧ (∀ k, v'.ownBlock = some k → v.ownBlock = some k ∨ (w.heap.size ≤ k ∧ k < w'.heap.size)) := by
  obtain ⟨i0, hi, hz0, hz1, hz2⟩ := info_parts infoJ
  have h0 : GOwn (w.alloc (.cells (ns.map ji).toArray 2)) 2 1 v l.length (l.map ji) := GOwn.keep h fun k hq => Below.heap_alloc _ _ _ (hk k hq)
  have hb4 := heap_alloc_new w (.cells (ns.map ji).toArray 2)
  have hsr : GSrc (w.alloc (.cells (ns.map ji).toArray 2)) 1 (.slice (some ⟨w.heap.size, 0, none⟩) ns.length ns.length) ns.length (ns.map ji) := by
    refine ⟨by simp, .inr ⟨_, _, rfl, fun k u hq => ?_⟩⟩
    have ea : (⟨w.heap.size, 0, none⟩ : Addr).add k = ⟨w.heap.size, k, none⟩ := by simp [Addr.add]; omega
    rw [ea]
    simp only [World.cell?, hb4]
    simpa using hq
  obtain ⟨v', w', h1, h2, h3, h4⟩ := run_gapp (P := Tryd.prog) 53 ty 2 i0 _ 1 8 Tryd.underlying53 hi hz0 hz1 hz2 rfl v l.length _ h0 _ ns.length (ns.map ji) hsr (by
    intro u hu
    obtain ⟨x, _, rfl⟩ := List.mem_map.1 hu
    rfl) (by simp only [maxLen]; omega) (by omega)
  refine ⟨v', w', h1, ?_, h3, fun k hq => ?_⟩
  · unfold JO
    rw [List.length_append, List.map_append]; exact h2
  · rcases h4 k hq with h | h
    · exact .inl h
    · exact .inr ⟨by have := h.1; simp at this; omega, h.2⟩
/-- A slice of runs. -/
def RuR (w : World) (v : Value) (L : List Ru) : Prop := ∃ a cap, v = .slice a L.length cap ∧ L.length ≤ maxLen ∧ ∀ j (hj : j < L.length), ∃ b off, a = some ⟨b, off, none⟩ ∧ b < w.heap.size ∧ w.cell? ⟨b, off + j * 3, none⟩ = some (.int .i64 L[j].f) ∧ w.cell? ⟨b, off + j * 3 + 1, none⟩ = some (.int .i64 L[j].l) ∧ w.cell? ⟨b, off + j * 3 + 2, none⟩ = some (.int .i64 L[j].c)
theorem RuR.form {w : World} {v : Value} {L : List Ru} (h : RuR w v L) : ∃ a cap, v = .slice a L.length cap ∧ L.length ≤ maxLen := by
  obtain ⟨a, cap, h1, h2, _⟩ := h
  exact ⟨a, cap, h1, h2⟩
theorem RuR.below {w w' : World} {v : Value} {L : List Ru} (h : RuR w v L) (hb : Below w.heap.size w w') : RuR w' v L := by
  obtain ⟨a, cap, h1, h2, h3⟩ := h
  refine ⟨a, cap, h1, h2, fun j hj => ?_⟩
  obtain ⟨b, off, q1, q2, q3, q4, q5⟩ := h3 j hj
  exact ⟨b, off, q1, Nat.lt_of_lt_of_le q2 hb.size, (hb.cell (p := ⟨b, off + j * 3, none⟩) q2).trans q3, (hb.cell (p := ⟨b, off + j * 3 + 1, none⟩) q2).trans q4, (hb.cell (p := ⟨b, off + j * 3 + 2, none⟩) q2).trans q5⟩
/-- An edit in memory. -/
structure EdR (w : World) (dv av : Value) (x : Ed) : Prop where
  d : JR w dv x.dr
  a : RuR w av x.ad
theorem EdR.below {w w' : World} {dv av : Value} {x : Ed} (h : EdR w dv av x) (hb : Below w.heap.size w w') : EdR w' dv av x := ⟨h.d.below hb, h.a.below hb⟩
end Go.Proofs.YtoibfepnecppmaaDoor
