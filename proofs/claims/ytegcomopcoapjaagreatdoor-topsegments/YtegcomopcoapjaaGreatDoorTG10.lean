/- WC4, joined. -/
import Derived.Test.YtegcomopcoapjaaGreatDoorTG8
import Derived.Test.YtegcomopcoapjaaGreatDoorTG9
import Derived.RangeFuncNested
import Derived.RangeFuncBound
import Derived.RangeFuncCalls
import Derived.RangeFuncBox
import Derived.Shelf.Abstract
import Derived.Shelf.RegionOpen
import Derived.WalkKit
import Derived.OwnWalkIn
import Derived.TacticsInMore
import Derived.LoopNIn
import Derived.LoopIn
import Derived.RegionIn
/- wal: the facts of bytes, one behind the other: what the function that is ranged over does. -/
namespace Go.Proofs.YtegcomopcoapjaaGreatDoor
open Go.RowKit Go.Shelf
attribute [local go_sem] Oper.semAt_some

def aftF : List Fc → List UInt8 → Option (List UInt8)
  | [], b => some b
  | f :: fs, b => match rdF b with
    | none => none
    | some (g, r) => if g = f then aftF fs r else none
theorem aftF_snoc : ∀ (fs : List Fc) (b r : List UInt8) (f : Fc) (r' : List UInt8), aftF fs b = some r → rdF r = some (f, r') → aftF (fs ++ [f]) b = some r'
  | [], b, r, f, r', h, h2 => by
    cases h
    rw [List.nil_append, aftF, h2]
    simp [aftF]
  | g :: fs, b, r, f, r', h, h2 => by
    rw [List.cons_append, aftF]
    rw [aftF] at h
    cases hd : rdF b with
    | none => rw [hd] at h; cases h
    | some q =>
      obtain ⟨g', r1⟩ := q
      rw [hd] at h
      simp only at h ⊢
      by_cases e : g' = g
      · rw [if_pos e] at h ⊢; exact aftF_snoc fs r1 r f r' h h2
      · rw [if_neg e] at h; cases h
theorem ga_aft : ∀ (fs : List Fc) (b r : List UInt8) (k : Nat), aftF fs b = some r → fs.all mayP = true → fs.length ≤ k → gaF k b = fs ++ gaF (k - fs.length) r
  | [], b, r, k, h, _, _ => by cases h; simp
  | g :: fs, b, r, 0, h, _, h3 => by simp at h3
  | g :: fs, b, r, k + 1, h, h2, h3 => by
    rw [aftF] at h
    rw [gaF]
    cases hd : rdF b with
    | none => rw [hd] at h; cases h
    | some q =>
      obtain ⟨g', r1⟩ := q
      rw [hd] at h
      simp only at h ⊢
      simp only [List.all_cons, Bool.and_eq_true] at h2
      by_cases e : g' = g
      · subst e
        rw [if_pos rfl] at h
        rw [if_pos h2.1, ga_aft fs r1 r k h h2.2 (by simpa using h3)]
        simp
      · rw [if_neg e] at h; cases h
theorem rdD_le : ∀ (k : Nat) (b : List UInt8) (D : List ByteArray) (r : List UInt8), rdD k b = some (D, r) → r.length ≤ b.length
  | 0, b, D, r, h => by simp [rdD] at h; rw [h.2]; exact Nat.le_refl _
  | k + 1, b, D, r, h => by
    rw [rdD] at h
    by_cases c : (rtF b [] 0).2.2 = 0
    · rw [if_pos c] at h
      obtain ⟨q, hq, he⟩ := Option.map_eq_some_iff.1 h
      have := rdD_le k _ q.1 q.2 hq
      simp only [Prod.mk.injEq] at he
      rw [he.2] at this
      rw [List.length_drop] at this
      omega
    · rw [if_neg c] at h; cases h
theorem rdF_lt {b : List UInt8} {f : Fc} {r : List UInt8} (h : rdF b = some (f, r)) : r.length < b.length := by
  unfold rdF at h
  by_cases c : (rsF b 0 0).2.2 = 0 ∧ (rsF b 0 0).1 ≤ 4
  · rw [if_pos c] at h
    cases hd : rdD (rsF b 0 0).1 (b.drop (rsF b 0 0).2.1) with
    | none => rw [hd] at h; cases h
    | some q =>
      rw [hd] at h
      obtain ⟨D, r'⟩ := q
      have hl := rdD_le _ _ _ _ hd
      rw [List.length_drop] at hl
      simp only at h
      by_cases c2 : r'.length < 16
      · rw [if_pos c2] at h; cases h
      · rw [if_neg c2] at h
        cases h
        rw [List.length_drop]
        omega
  · rw [if_neg c] at h; cases h
def Fa.encs (x : Fa) : Array Value := #[.agg #[x.v, .int .i64 x.t, .int .i64 x.x]]
def PreF (w : World) (bs : List UInt8) (pre : List Fa) (x : Fa) (X : Nat) (W : World) : Prop :=
  SOwn W w.heap.size x.v x.D ∧ FaB x ∧ (∃ cs, W.heap[X]? = some (.cells cs 60)) ∧ ∃ r r', aftF (pre.map Fa.p) bs = some r ∧ rdF r = some (x.p, r')
def SFs (bs : List UInt8) (xs : List Fa) : Prop := ∃ r, aftF (xs.map Fa.p) bs = some r ∧ rdF r = none
/-- Where a round begins. -/
def StF (w : World) (X : Nat) (r : List UInt8) (rv ok : Value) (wr : World) : Prop :=
  (∃ (g : Fa) (r' : List UInt8), rdF r = some (g.p, r') ∧ ok = .bool true ∧ Reads w rv r' ∧ r'.length ≤ 10000 ∧ wr.heap[X]? = some (.cells #[g.v, .int .i64 g.t, .int .i64 g.x] 60) ∧ SOwn wr w.heap.size g.v g.D ∧ FaB g) ∨
  (rdF r = none ∧ ok = .bool false ∧ rv = .slice none 0 0)
def mzF : Value → Value → Nat
  | .slice _ n _, .bool true => 2 * n + 1
  | _, _ => 0
theorem sown_other {A B : World} {base X : Nat} {v : Value} {L : List ByteArray} {cs : Array Value} {T : TypeId} (h : SOwn A base v L) (ho : Onl (fun k => k = X) A B) (hX : A.heap[X]? = some (.cells cs T)) (hT : T ≠ 9) : SOwn B base v L := by
  obtain ⟨⟨h1, h2⟩, h3⟩ := h
  refine ⟨⟨h1, ?_⟩, h3⟩
  rcases h2 with h2 | ⟨g, cap, cur, hv, hg, hw, r⟩
  · exact .inl h2
  · refine .inr ⟨g, cap, cur, hv, hg, (ho.block g (Array.getElem?_eq_some_iff.1 hw).1 ?_).trans hw, r⟩
    intro e
    rw [e, hX] at hw
    cases hw
    exact hT rfl
theorem onl3 {X : Nat} {w : World} (a b c : Value) : Onl (fun k => k = X) w (((w.setCell ⟨X, 0, none⟩ a).setCell ⟨X, 1, none⟩ b).setCell ⟨X, 2, none⟩ c) :=
  ((Onl.set (O := fun k => k = X) (a := ⟨X, 0, none⟩) rfl a).then (Onl.set (O := fun k => k = X) (a := ⟨X, 1, none⟩) rfl b)).then (Onl.set (O := fun k => k = X) (a := ⟨X, 2, none⟩) rfl c)
theorem sown_new {A : World} {base : Nat} {v : Value} {L : List ByteArray} (h : SOwn A base v L) (o : Obj) : SOwn (A.alloc o) base v L := h.below ((Below.refl _ _).alloc (Nat.le_refl _) _)
set_option maxRecDepth 100000 in
set_option maxHeartbeats 4000000 in
theorem facts1_in (n : Nat) (_hn : 1 ≤ n) (l Bn : Nat) (v : Value) (bs : List UInt8) (hbl : bs.length ≤ 10000) (w : World) (hR : Reads w v bs) (J Jx : Nat → List Fa → World → Prop) (W : World) (hW : Below w.heap.size w W)
    (hJ : ∀ X pre A B, J X pre A → Onl (fun k => k = X) A B → J X pre B)
    (hY : ∀ X pre x W1, J X pre W1 → X < W1.heap.size → PreF w bs pre x X W1 → YieldAt Fence.wide (n - 1) Tryz.prog l x.encs W1 fun e W' => (e = .returned (.bool true) ∧ J X (pre ++ [x]) W' ∧ Below w.heap.size W1 W' ∧ W'.heap[X]? = W1.heap[X]?) ∨ (e = .returned (.bool false) ∧ Jx X (pre ++ [x]) W'))
    (hBn : W.cell? ⟨Bn, 0, none⟩ = some v) (h0 : ∀ X, W.heap.size ≤ X → J X [] W) :
    CallsIn Fence.wide n Tryz.prog 76 #[.func (.yield l) #[] #[], .pointer (some ⟨Bn, 0, none⟩)] W fun e W' => (∃ v, e = .returned v) ∧ ((∃ X xs, SFs bs xs ∧ J X xs W') ∨ ∃ X xs, True ∧ Jx X xs W') := by
  obtain ⟨a, cap, rfl, _⟩ := hR.form
  have HJ : Hid (∀ X pre A B, J X pre A → Onl (fun k => k = X) A B → J X pre B) := hJ
  have HY : Hid (∀ X pre x W1, J X pre W1 → X < W1.heap.size → PreF w bs pre x X W1 → YieldAt Fence.wide (n - 1) Tryz.prog l x.encs W1 fun e W' => (e = .returned (.bool true) ∧ J X (pre ++ [x]) W' ∧ Below w.heap.size W1 W' ∧ W'.heap[X]? = W1.heap[X]?) ∨ (e = .returned (.bool false) ∧ Jx X (pre ++ [x]) W')) := hY
  have HW0 : Hid (Below w.heap.size w W) := hW
  have H0 : Hid (∀ X, W.heap.size ≤ X → J X [] W) := h0
  have HCs : Hid (CallsIn Fence.wide (n - 1) Tryz.prog 77 #[.slice a bs.length cap] W (FtPost w W bs)) := callsIn_wide.2 (fact_any _ bs hbl w W hW hR)
  clear hJ hY hR hW h0
  refine callsIn_of_wp Tryz.func76 rfl trivial ?_ rfl
  simp only [Tryz.ntmps76, List.size_toArray, List.length_cons, List.length_nil, Nat.reduceAdd, Nat.reduceSub, Array.replicate_succ, Array.replicate_zero, List.push_toArray, List.append_toArray, List.nil_append, List.cons_append]
  gi_wp2_with fail
  refine ⟨trivial, ?_⟩
  refine HCs.out.mono ?_
  rintro e w1 ⟨hb1, hq⟩
  have HB1 : Hid (Below W.heap.size W w1) := hb1
  obtain ⟨X, HX⟩ := hid_ex w1.heap.size
  obtain ⟨q, HQ⟩ := hid_ex (rdF bs)
  have HRest : ∀ (vd : Value) (t x : Int) (rv ok : Value), StF w X bs rv ok (w1.alloc (.cells #[vd, .int .i64 t, .int .i64 x] 60)) →
      Hid (∃ (pre : List Fa) (r : List UInt8), Hid (aftF (pre.map Fa.p) bs = some r) ∧ J X pre (w1.alloc (.cells #[vd, .int .i64 t, .int .i64 x] 60)) ∧ Hid (X < (w1.alloc (.cells #[vd, .int .i64 t, .int .i64 x] 60)).heap.size) ∧ Hid (Below w.heap.size w (w1.alloc (.cells #[vd, .int .i64 t, .int .i64 x] 60))) ∧ Hid (∃ cs, (w1.alloc (.cells #[vd, .int .i64 t, .int .i64 x] 60)).heap[X]? = some (.cells cs 60) ∧ cs.size = 3) ∧ Hid (StF w X r rv ok (w1.alloc (.cells #[vd, .int .i64 t, .int .i64 x] 60)))) := by
    intro vd t x rv ok hst
    have hXs := HX.out
    refine ⟨[], bs, rfl, HJ.out X [] W _ (H0.out X (by rw [hXs]; exact HB1.out.size)) ((onl_of_below HB1.out).then (Onl.alloc _)), by show X < _; rw [hXs]; simp, ((HW0.out.trans (HB1.out.mono HW0.out.size)).alloc (Nat.le_trans HW0.out.size HB1.out.size) _), ⟨_, by rw [hXs]; exact World.alloc_heap_new _ _, rfl⟩, hst⟩
  have HRest' : Hid _ := HRest
  clear HRest HCs hb1
  have hX := HX.out
  subst hX
  clear HX
  rw [← HQ.out] at hq
  cases q with
  | none =>
    dsimp only at hq
    subst hq
    have HS := HRest'.out (.slice none 0 0) 0 0 (.slice none 0 0) (.bool false) (.inr ⟨HQ.out.symm, rfl, rfl⟩)
    clear HRest' HQ
    gi_wp2_with fail
    gi_loopw [4, 5] (fun rv ok wr => ∃ (pre : List Fa) (r : List UInt8), Hid (aftF (pre.map Fa.p) bs = some r) ∧ J w1.heap.size pre wr ∧ Hid (w1.heap.size < wr.heap.size) ∧ Hid (Below w.heap.size w wr) ∧ Hid (∃ cs, wr.heap[w1.heap.size]? = some (.cells cs 60) ∧ cs.size = 3) ∧ Hid (StF w w1.heap.size r rv ok wr)) (fun rv ok _ => mzF rv ok)
    case atStart => exact HS.out
    case round =>
      clear HS
      obtain ⟨pre, r, HA, hJp, HXl, HB, HCX, HSt⟩ := hrel
      rcases HSt.out with ⟨g, r', hd, rfl, hrr, hrl, hbox, hso, hfb⟩ | ⟨hd, rfl, rfl⟩
      · obtain ⟨ga, gc, hgv⟩ := row_form2 hso.1
        have z0 := cl3 hbox 0 (by simp)
        have z1 := cl3 hbox 1 (by simp)
        have z2 := cl3 hbox 2 (by simp)
        simp only [List.getElem_toArray, List.getElem_cons_succ, List.getElem_cons_zero] at z0 z1 z2
        rw [hgv] at z0
        obtain ⟨ar2, cr2, hrv2, _⟩ := hrr.form
        subst hrv2
        have hPre : PreF w bs pre g w1.heap.size wr := ⟨hso, hfb, ⟨_, hbox⟩, r, r', HA.out, hd⟩
        obtain ⟨fn, tmps, assign, body, hy, hRd⟩ := HY.out w1.heap.size pre g wr hJp HXl.out hPre
        dsimp only [Fa.encs] at hy
        rw [hgv] at hy
        have HD : Hid (rdF r = some (g.p, r')) := hd
        have HRR : Hid (Reads w (.slice ar2 r'.length cr2) r') := hrr
        have HBox : Hid (wr.heap[w1.heap.size]? = some (.cells #[g.v, .int .i64 g.t, .int .i64 g.x] 60)) := hbox
        clear hd hrr hbox hso hfb hPre HSt HCX
        gi_wp2
        refine hRd.mono ?_
        rintro e W3 (⟨rfl, hJ3, hb3, hx3⟩ | ⟨rfl, hX3⟩)
        · have HB3 : Hid (Below w.heap.size w W3) := HB.out.trans hb3
          have HA3 : Hid (aftF ((pre ++ [g]).map Fa.p) bs = some r') := by
            unfold Hid
            rw [List.map_append]
            exact aftF_snoc _ _ _ _ _ HA.out HD.out
          have HBx3 : Hid (W3.heap[w1.heap.size]? = some (.cells #[g.v, .int .i64 g.t, .int .i64 g.x] 60)) := hx3.trans HBox.out
          clear hy hRd hb3 hx3 HB HBox HD HA z0 z1 z2 hJp
          gi_wp2_with fail
          refine ⟨trivial, ?_⟩
          refine (callsIn_wide.2 (fact_any _ r' hrl w W3 HB3.out HRR.out)).mono ?_
          rintro e w4 ⟨hb4, hq4⟩
          have hX3l := (Array.getElem?_eq_some_iff.1 HBx3.out).1
          have HBx4 : Hid (w4.heap[w1.heap.size]? = some (.cells #[g.v, .int .i64 g.t, .int .i64 g.x] 60)) := (hb4.block _ hX3l).trans HBx3.out
          have HB4 : Hid (Below w.heap.size w w4) := HB3.out.trans (hb4.mono HB3.out.size)
          have hJ4 : J w1.heap.size (pre ++ [g]) w4 := HJ.out _ _ _ _ hJ3 (onl_of_below hb4)
          have HXl4 : Hid (w1.heap.size < w4.heap.size) := (Array.getElem?_eq_some_iff.1 HBx4.out).1
          have HX0 : Hid (w.heap.size ≤ w1.heap.size) := Nat.le_trans HW0.out.size HB1.out.size
          have k0 := cl3 HBx4.out 0 (by simp)
          have k1 := cl3 HBx4.out 1 (by simp)
          have k2 := cl3 HBx4.out 2 (by simp)
          have f0 := fz3 HBx4.out 0
          have f1 := fz3 HBx4.out 1
          have f2 := fz3 HBx4.out 2
          simp only [List.getElem_toArray, List.getElem_cons_succ, List.getElem_cons_zero] at k0 k1 k2
          have HS3 : Hid (W3.heap.size + 1 ≥ w.heap.size) := Nat.le_trans HB3.out.size (Nat.le_succ _)
          clear hX3l hJ3 hb4
          cases hd' : rdF r' with
          | none =>
            rw [hd'] at hq4
            dsimp only at hq4
            subst hq4
            have HSt4 : Hid (StF w w1.heap.size r' (.slice none 0 0) (.bool false) (((w4.setCell ⟨w1.heap.size, 0, none⟩ (.slice none 0 0)).setCell ⟨w1.heap.size, 1, none⟩ (.int .i64 0)).setCell ⟨w1.heap.size, 2, none⟩ (.int .i64 0))) := .inr ⟨hd', rfl, rfl⟩
            have hJ5 := HJ.out _ _ _ _ hJ4 (onl3 (X := w1.heap.size) (.slice none 0 0) (.int .i64 0) (.int .i64 0))
            clear hd' hJ4
            gi_wp2
            go_roundw
            case rel => exact ⟨pre ++ [g], r', HA3, hJ5, by show _ < _; simpa using HXl4.out, below3 HB4.out HX0.out _ _ _, ⟨_, set3 HBx4.out rfl _ _ _, rfl⟩, HSt4⟩
            case measure => simp [mzF]
          | some fr2 =>
            obtain ⟨f2', r2⟩ := fr2
            rw [hd'] at hq4
            dsimp only at hq4
            obtain ⟨vd2, vr2, rfl, ho2, hrd2⟩ := hq4
            obtain ⟨ao2, co2, hov2⟩ := row_form2 ho2.1
            subst hov2
            have HSt4 : Hid (StF w w1.heap.size r' vr2 (.bool true) (((w4.setCell ⟨w1.heap.size, 0, none⟩ (.slice ao2 f2'.D.length co2)).setCell ⟨w1.heap.size, 1, none⟩ (.int .i64 f2'.t)).setCell ⟨w1.heap.size, 2, none⟩ (.int .i64 f2'.x))) :=
              .inl ⟨⟨.slice ao2 f2'.D.length co2, f2'.D, f2'.t, f2'.x⟩, r2, hd', rfl, hrd2, by have := rdF_lt hd'; omega, set3 HBx4.out rfl _ _ _, sown_other (ho2.mono HS3.out) (onl3 _ _ _) HBx4.out (by decide), (rdF_bd hd').1, (rdF_bd hd').2.1, (rdF_bd hd').2.2.1, (rdF_bd hd').2.2.2⟩
            have hJ5 := HJ.out _ _ _ _ hJ4 (onl3 (X := w1.heap.size) (.slice ao2 f2'.D.length co2) (.int .i64 f2'.t) (.int .i64 f2'.x))
            have HM : Hid (r2.length < r'.length) := rdF_lt hd'
            obtain ⟨ar3, cr3, hrv3, _⟩ := hrd2.form
            subst hrv3
            clear hd' hJ4 ho2 hrd2
            gi_wp2
            go_roundw
            case rel => exact ⟨pre ++ [g], r', HA3, hJ5, by show _ < _; simpa using HXl4.out, below3 HB4.out HX0.out _ _ _, ⟨_, set3 HBx4.out rfl _ _ _, rfl⟩, HSt4⟩
            case measure => have := HM.out; simp [mzF]; omega
        · gi_wp2
          refine bodyPost_end (results_none rfl _ _ _) rfl ?_
          exact ⟨⟨_, rfl⟩, .inr ⟨_, _, trivial, hX3⟩⟩
      · have HE : Hid (SFs bs pre) := ⟨r, HA.out, hd⟩
        clear hd HSt
        gi_wp2
        refine ⟨fun _ h => (by cases h), ?_⟩
        gi_wp2
        refine bodyPost_end (results_none rfl _ _ _) rfl ?_
        exact ⟨⟨_, rfl⟩, .inl ⟨_, pre, HE.out, hJp⟩⟩
  | some fr =>
    obtain ⟨f, r1⟩ := fr
    dsimp only at hq
    obtain ⟨vd, vr, rfl, ho, hrd⟩ := hq
    obtain ⟨ao, co, hov⟩ := row_form2 ho.1
    subst hov
    have HS := HRest'.out (.slice ao f.D.length co) f.t f.x vr (.bool true) (.inl ⟨⟨.slice ao f.D.length co, f.D, f.t, f.x⟩, r1, HQ.out.symm, rfl, hrd, by have := rdF_lt HQ.out.symm; omega, World.alloc_heap_new _ _, sown_new (ho.mono (Nat.le_trans HW0.out.size (Nat.le_succ _))) _, (rdF_bd HQ.out.symm).1, (rdF_bd HQ.out.symm).2.1, (rdF_bd HQ.out.symm).2.2.1, (rdF_bd HQ.out.symm).2.2.2⟩)
    obtain ⟨ar, cr, hrv, _⟩ := hrd.form
    subst hrv
    clear HRest' HQ ho hrd
    gi_wp2_with fail
    gi_loopw [4, 5] (fun rv ok wr => ∃ (pre : List Fa) (r : List UInt8), Hid (aftF (pre.map Fa.p) bs = some r) ∧ J w1.heap.size pre wr ∧ Hid (w1.heap.size < wr.heap.size) ∧ Hid (Below w.heap.size w wr) ∧ Hid (∃ cs, wr.heap[w1.heap.size]? = some (.cells cs 60) ∧ cs.size = 3) ∧ Hid (StF w w1.heap.size r rv ok wr)) (fun rv ok _ => mzF rv ok)
    case atStart => exact HS.out
    case round =>
      clear HS
      obtain ⟨pre, r, HA, hJp, HXl, HB, HCX, HSt⟩ := hrel
      rcases HSt.out with ⟨g, r', hd, rfl, hrr, hrl, hbox, hso, hfb⟩ | ⟨hd, rfl, rfl⟩
      · obtain ⟨ga, gc, hgv⟩ := row_form2 hso.1
        have z0 := cl3 hbox 0 (by simp)
        have z1 := cl3 hbox 1 (by simp)
        have z2 := cl3 hbox 2 (by simp)
        simp only [List.getElem_toArray, List.getElem_cons_succ, List.getElem_cons_zero] at z0 z1 z2
        rw [hgv] at z0
        obtain ⟨ar2, cr2, hrv2, _⟩ := hrr.form
        subst hrv2
        have hPre : PreF w bs pre g w1.heap.size wr := ⟨hso, hfb, ⟨_, hbox⟩, r, r', HA.out, hd⟩
        obtain ⟨fn, tmps, assign, body, hy, hRd⟩ := HY.out w1.heap.size pre g wr hJp HXl.out hPre
        dsimp only [Fa.encs] at hy
        rw [hgv] at hy
        have HD : Hid (rdF r = some (g.p, r')) := hd
        have HRR : Hid (Reads w (.slice ar2 r'.length cr2) r') := hrr
        have HBox : Hid (wr.heap[w1.heap.size]? = some (.cells #[g.v, .int .i64 g.t, .int .i64 g.x] 60)) := hbox
        clear hd hrr hbox hso hfb hPre HSt HCX
        gi_wp2
        refine hRd.mono ?_
        rintro e W3 (⟨rfl, hJ3, hb3, hx3⟩ | ⟨rfl, hX3⟩)
        · have HB3 : Hid (Below w.heap.size w W3) := HB.out.trans hb3
          have HA3 : Hid (aftF ((pre ++ [g]).map Fa.p) bs = some r') := by
            unfold Hid
            rw [List.map_append]
            exact aftF_snoc _ _ _ _ _ HA.out HD.out
          have HBx3 : Hid (W3.heap[w1.heap.size]? = some (.cells #[g.v, .int .i64 g.t, .int .i64 g.x] 60)) := hx3.trans HBox.out
          clear hy hRd hb3 hx3 HB HBox HD HA z0 z1 z2 hJp
          gi_wp2_with fail
          refine ⟨trivial, ?_⟩
          refine (callsIn_wide.2 (fact_any _ r' hrl w W3 HB3.out HRR.out)).mono ?_
          rintro e w4 ⟨hb4, hq4⟩
          have hX3l := (Array.getElem?_eq_some_iff.1 HBx3.out).1
          have HBx4 : Hid (w4.heap[w1.heap.size]? = some (.cells #[g.v, .int .i64 g.t, .int .i64 g.x] 60)) := (hb4.block _ hX3l).trans HBx3.out
          have HB4 : Hid (Below w.heap.size w w4) := HB3.out.trans (hb4.mono HB3.out.size)
          have hJ4 : J w1.heap.size (pre ++ [g]) w4 := HJ.out _ _ _ _ hJ3 (onl_of_below hb4)
          have HXl4 : Hid (w1.heap.size < w4.heap.size) := (Array.getElem?_eq_some_iff.1 HBx4.out).1
          have HX0 : Hid (w.heap.size ≤ w1.heap.size) := Nat.le_trans HW0.out.size HB1.out.size
          have k0 := cl3 HBx4.out 0 (by simp)
          have k1 := cl3 HBx4.out 1 (by simp)
          have k2 := cl3 HBx4.out 2 (by simp)
          have f0 := fz3 HBx4.out 0
          have f1 := fz3 HBx4.out 1
          have f2 := fz3 HBx4.out 2
          simp only [List.getElem_toArray, List.getElem_cons_succ, List.getElem_cons_zero] at k0 k1 k2
          have HS3 : Hid (W3.heap.size + 1 ≥ w.heap.size) := Nat.le_trans HB3.out.size (Nat.le_succ _)
          clear hX3l hJ3 hb4
          cases hd' : rdF r' with
          | none =>
            rw [hd'] at hq4
            dsimp only at hq4
            subst hq4
            have HSt4 : Hid (StF w w1.heap.size r' (.slice none 0 0) (.bool false) (((w4.setCell ⟨w1.heap.size, 0, none⟩ (.slice none 0 0)).setCell ⟨w1.heap.size, 1, none⟩ (.int .i64 0)).setCell ⟨w1.heap.size, 2, none⟩ (.int .i64 0))) := .inr ⟨hd', rfl, rfl⟩
            have hJ5 := HJ.out _ _ _ _ hJ4 (onl3 (X := w1.heap.size) (.slice none 0 0) (.int .i64 0) (.int .i64 0))
            clear hd' hJ4
            gi_wp2
            go_roundw
            case rel => exact ⟨pre ++ [g], r', HA3, hJ5, by show _ < _; simpa using HXl4.out, below3 HB4.out HX0.out _ _ _, ⟨_, set3 HBx4.out rfl _ _ _, rfl⟩, HSt4⟩
            case measure => simp [mzF]
          | some fr2 =>
            obtain ⟨f2', r2⟩ := fr2
            rw [hd'] at hq4
            dsimp only at hq4
            obtain ⟨vd2, vr2, rfl, ho2, hrd2⟩ := hq4
            obtain ⟨ao2, co2, hov2⟩ := row_form2 ho2.1
            subst hov2
            have HSt4 : Hid (StF w w1.heap.size r' vr2 (.bool true) (((w4.setCell ⟨w1.heap.size, 0, none⟩ (.slice ao2 f2'.D.length co2)).setCell ⟨w1.heap.size, 1, none⟩ (.int .i64 f2'.t)).setCell ⟨w1.heap.size, 2, none⟩ (.int .i64 f2'.x))) :=
              .inl ⟨⟨.slice ao2 f2'.D.length co2, f2'.D, f2'.t, f2'.x⟩, r2, hd', rfl, hrd2, by have := rdF_lt hd'; omega, set3 HBx4.out rfl _ _ _, sown_other (ho2.mono HS3.out) (onl3 _ _ _) HBx4.out (by decide), (rdF_bd hd').1, (rdF_bd hd').2.1, (rdF_bd hd').2.2.1, (rdF_bd hd').2.2.2⟩
            have hJ5 := HJ.out _ _ _ _ hJ4 (onl3 (X := w1.heap.size) (.slice ao2 f2'.D.length co2) (.int .i64 f2'.t) (.int .i64 f2'.x))
            have HM : Hid (r2.length < r'.length) := rdF_lt hd'
            obtain ⟨ar3, cr3, hrv3, _⟩ := hrd2.form
            subst hrv3
            clear hd' hJ4 ho2 hrd2
            gi_wp2
            go_roundw
            case rel => exact ⟨pre ++ [g], r', HA3, hJ5, by show _ < _; simpa using HXl4.out, below3 HB4.out HX0.out _ _ _, ⟨_, set3 HBx4.out rfl _ _ _, rfl⟩, HSt4⟩
            case measure => have := HM.out; simp [mzF]; omega
        · gi_wp2
          refine bodyPost_end (results_none rfl _ _ _) rfl ?_
          exact ⟨⟨_, rfl⟩, .inr ⟨_, _, trivial, hX3⟩⟩
      · have HE : Hid (SFs bs pre) := ⟨r, HA.out, hd⟩
        clear hd HSt
        gi_wp2
        refine ⟨fun _ h => (by cases h), ?_⟩
        gi_wp2
        refine bodyPost_end (results_none rfl _ _ _) rfl ?_
        exact ⟨⟨_, rfl⟩, .inl ⟨_, pre, HE.out, hJp⟩⟩
end Go.Proofs.YtegcomopcoapjaaGreatDoor
