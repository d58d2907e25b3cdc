/- MG10 MG11 MG17 MG19 CN G1 G2 G3 G4 G5 G6 G7 G8 K0 K4, joined. -/
import Derived.Test.YtbadjigfcncfcaaJ2
import Derived.Laws.AppendOwn
import Derived.WalkKit
import Derived.WalkSpells
import Derived.WalkLawsBesides
import Derived.Below
import Derived.Deep.RegionHeld3
import Derived.WalkMore
import Derived.SliceStrings
import Derived.Lib.SmallJoins
import Derived.OpenShut
import Derived.ProofKit
/- One more part of a heap; the contract of New. -/
namespace Go.Proofs.Ytbadjigfcncfcaa
open Go.RowKit

theorem infoPt : (Try.prog.info? 104).map (fun i => (i.zero, i.size, i.bytes)) = some (some (.agg #[.slice none 0 0, .int .i64 0]), 2, 32) := by kernel_rfl
theorem partsF_append : ∀ (rs ss : List (List En)) (i : Nat), partsF i (rs ++ ss) = partsF i rs ++ partsF (i + rs.length) ss
  | [], ss, i => by simp [partsF]
  | r :: rs, ss, i => by
    have ih := partsF_append rs ss (i + 1)
    rw [List.cons_append, partsF, partsF, ih, show i + 1 + rs.length = i + (r :: rs).length by simp; omega]
    split <;> rfl
theorem partsF_snoc {rs : List (List En)} {k : Nat} (hk : k < rs.length) : partsF 0 (rs.take (k + 1)) = partsF 0 (rs.take k) ++ (if rs[k] = [] then [] else [(rs[k], k)]) := by
  rw [List.take_add_one, List.getElem?_eq_getElem hk]
  show partsF 0 (rs.take k ++ [rs[k]]) = _
  rw [partsF_append]
  congr 1
  have : (rs.take k).length = k := by simp; omega
  rw [this, Nat.zero_add]
  unfold partsF
  split <;> rfl
theorem HM.mono {w : World} {lo hh hh' h : Nat} {P : List Pt} (H : HM w lo hh h P) (hl : hh ≤ hh') : HM w lo hh' h P := by
  obtain ⟨v, h1, h2, h3⟩ := H.hd
  exact ⟨H.h1, Nat.lt_of_lt_of_le H.h2 hl, ⟨v, h1, h2, fun k hk => Nat.lt_of_lt_of_le (h3 k hk) hl⟩, fun p hp => ⟨(H.pt p hp).g1, Nat.lt_of_lt_of_le (H.pt p hp).g2 hl, (H.pt p hp).n1, (H.pt p hp).n2, (H.pt p hp).n3, (H.pt p hp).ce, (H.pt p hp).ky⟩, H.nd, H.le⟩
theorem ptOk_of {w : World} {lo hh base g n : Nat} {xs : List Ev} {r : Nat} (h : EOwn w base (.slice (some ⟨g, 0, none⟩) n n) xs) (hb : lo ≤ base) (hn : xs.length = n) (h0 : 0 < n) (hg : g < hh) : PtOk w lo hh ⟨g, 0, n, xs, r⟩ := by
  obtain ⟨h1, h2⟩ := h
  have hlt := World.ownsRow.lt h1 g rfl
  rcases h1.2 with ⟨q, _⟩ | ⟨g', c', cur, q, hg', hw, hc, hx, hs, ht⟩
  · simp at q
  · have q' := q
    simp at q'
    obtain ⟨rfl, e, rfl⟩ := q'
    refine ⟨by show lo ≤ g; omega, hg, by show 0 < xs.length; omega, by show xs.length ≤ n; omega, by show n ≤ _; exact hx, ⟨cur, hw, fun j hj i hi => ?_⟩, fun x hx => (h2 x hx).mono hb⟩
    have hj' : j < xs.length := hj
    have h3 := flat7 xs j i hj' hi
    rw [← ht, List.getElem?_take, if_pos (by omega), Array.getElem?_toList] at h3
    show cur[0 + (7 * j + i)]? = _
    rw [Nat.zero_add, h3, List.getElem?_eq_getElem (show i < (c7 xs[j]).length from hi)]
    rfl
/-- A part is added. -/
theorem HM.add {w w1 : World} {lo h : Nat} {P : List Pt} {p : Pt} {a : Option Addr} {n cap g' cap' : Nat} {tmp : Obj} (H : HM w lo w.heap.size h P) (hv : w.heap[h]? = some (.cells #[.slice a n cap] 101)) (hrow : w.ownsRow lo 104 2 (.slice a n cap) n (P.flatMap p2))
    (hp : PtOk w lo w.heap.size p) (hnew : ∀ q ∈ P, q.g ≠ p.g) (hle : P.length < 100000)
    (ho : w1.ownsRow lo 104 2 (.slice (some ⟨g', 0, none⟩) (P.length + 1) cap') (P.length + 1) (P.flatMap p2 ++ [lv p, .int .i64 (p.r : Int)])) (hg : (w.alloc tmp).grownBy w1 (Value.slice a n cap).ownBlock) :
    HM (w1.setCell ⟨h, 0, none⟩ (.slice (some ⟨g', 0, none⟩) (P.length + 1) cap')) lo w1.heap.size h (P ++ [p]) ∧ Below lo w (w1.setCell ⟨h, 0, none⟩ (.slice (some ⟨g', 0, none⟩) (P.length + 1) cap')) ∧ (w1.setCell ⟨h, 0, none⟩ (.slice (some ⟨g', 0, none⟩) (P.length + 1) cap')).heap.size = w1.heap.size := by
  have hsz : w.heap.size ≤ w1.heap.size := by have := hg.size; simp at this; omega
  have hrb : ∀ k, (Value.slice a n cap).ownBlock = some k → ∃ cur, w.heap[k]? = some (.cells cur 104) := by
    intro k hk
    rcases hrow.2 with ⟨q, _⟩ | ⟨g0, c0, cur, q, _, hw, _⟩
    · simp at q; rw [q.1] at hk; simp [Value.ownBlock] at hk
    · simp at q
      rw [q.1] at hk
      simp [Value.ownBlock] at hk
      subst hk
      exact ⟨cur, hw⟩
  have hk1 : ∀ (k : Nat) (cs : Array Value) (T : TypeId) (fr : Nat × Nat), T ≠ 104 → w.heap[k]? = some (.cells cs T fr) → w1.heap[k]? = some (.cells cs T fr) := by
    intro k cs T fr hT hk
    have hkl := (Array.getElem?_eq_some_iff.1 hk).1
    rw [hg.block k (by simp; omega) (fun e => ?_)]
    · exact (Below.heap_alloc _ _ _ hkl).trans hk
    · obtain ⟨cur, hc⟩ := hrb k e.symm
      rw [hk] at hc
      simp at hc
      exact hT hc.2.1
  have hh1 := hk1 h _ _ _ (by decide) hv
  have hk2 : ∀ (k : Nat) (cs : Array Value) (T : TypeId) (fr : Nat × Nat), T ≠ 104 → T ≠ 101 → w.heap[k]? = some (.cells cs T fr) → (w1.setCell ⟨h, 0, none⟩ (.slice (some ⟨g', 0, none⟩) (P.length + 1) cap')).heap[k]? = some (.cells cs T fr) := by
    intro k cs T fr h1 h2 hk
    rw [Below.heap_setCell _ _ _ _ (typ_ne hk hv h2)]
    exact hk1 k cs T fr h1 hk
  have hpt : ∀ q, PtOk w lo w.heap.size q → PtOk (w1.setCell ⟨h, 0, none⟩ (.slice (some ⟨g', 0, none⟩) (P.length + 1) cap')) lo w1.heap.size q := by
    intro q hq
    obtain ⟨cur, hc1, hc2⟩ := hq.ce
    exact ⟨hq.g1, by have := hq.g2; omega, hq.n1, hq.n2, hq.n3, ⟨cur, hk2 _ _ _ _ (by decide) (by decide) hc1, hc2⟩, fun x hx => own_kp (hq.ky x hx) (fun k cs fr q => hk2 k cs _ fr (by decide) (by decide) q)⟩
  have hgl := World.ownsRow.lt ho g' rfl
  refine ⟨⟨H.h1, by have := H.h2; omega, ⟨.slice (some ⟨g', 0, none⟩) (P.length + 1) cap', ?_, ?_, fun k hk => ?_⟩, fun q hq => ?_, ?_, by simp; omega⟩, ?_, by simp [World.setCell]⟩
  · have := heap_setCell_same w1 h 0 _ _ (.slice (some ⟨g', 0, none⟩) (P.length + 1) cap') hh1
    simpa using this
  · rw [List.length_append, List.flatMap_append]
    obtain ⟨cur, hcur⟩ := row_block ho
    exact row_heap ho (Below.heap_setCell _ _ _ _ (typ_ne hcur hh1 (by decide)))
  · simp [Value.ownBlock] at hk
    omega
  · rcases List.mem_append.1 hq with hq | hq
    · exact hpt q (H.pt q hq)
    · obtain rfl : q = p := by simpa using hq
      exact hpt q hp
  · rw [List.map_append, List.nodup_append]
    refine ⟨H.nd, by simp, fun x hx y hy e => ?_⟩
    obtain ⟨q, hq, rfl⟩ := List.mem_map.1 hx
    obtain rfl : y = p.g := by simpa using hy
    exact hnew q hq e
  · refine Below.trans ?_ ((Below.refl _ _).setCell H.h1 _)
    have hlo : lo ≤ w.heap.size := by have := H.h1; have := H.h2; omega
    refine ((Below.refl lo w).alloc hlo tmp).grown hg (by simp; omega) (fun k hk => (World.ownsRow.lt hrow k hk).1)
theorem wp_app_run {w w' : World} {o : Oper} {a : Act} {K : Act → World → Prop} {Q : Exit → Act → World → Prop} (s x : Operand) (t ty : TypeId) (ho : o.op = .call { callee := .builtin .append, args := #[s, x], argTypes := #[t, t] }) (hty : o.type = ty) (v vx v' : Value) (hs : a.eval s = v) (hx : a.eval x = vx)
    (hrun : (Builtin.append_ #[t, t] ty #[v, vx]).run Try.prog w = .ok v' w') (h : K (a.put o.dst v') w') : o.wp Try.prog a w K Q := by
  subst hty
  unfold Oper.wp
  simp [execOp, ho, resolve, invoke, builtin, hs, hx, hrun, Result.andThen]
  exact h
theorem wpList_app_run {w w' : World} {ops : Array Oper} {rest : List Oper} {o : Oper} {a : Act} {Q : Exit → Act → World → Prop} (hgd : o.guard = none) (s x : Operand) (t ty : TypeId) (ho : o.op = .call { callee := .builtin .append, args := #[s, x], argTypes := #[t, t] }) (hty : o.type = ty) (v vx v' : Value) (hs : a.eval s = v) (hx : a.eval x = vx)
    (hrun : (Builtin.append_ #[t, t] ty #[v, vx]).run Try.prog w = .ok v' w') (h : wpList Try.prog ops Q rest (a.put o.dst v') w') : wpList Try.prog ops Q (o :: rest) a w :=
  wpList_plain hgd fun _ hK => wp_app_run s x t ty ho hty v vx v' hs hx hrun (hK _ _ h)
def NwPost (rs : List (List En)) (w : World) (e : Ending) (w' : World) : Prop :=
  Below w.heap.size w w' ∧ ((rowsF rs ≠ 0 ∧ e = .returned (.tuple #[.pointer none, .int .i64 (rowsF rs)])) ∨ (rowsF rs = 0 ∧ ∃ h hh, e = .returned (.tuple #[.pointer (some ⟨h, 0, none⟩), .int .i64 0]) ∧ HS w' w.heap.size hh h (seqF rs)))
/-- What the second loop of New keeps. -/
structure NwI (rs : List (List En)) (w : World) (h k : Nat) (P : List Pt) (wr : World) : Prop where
  p : P.map paP = partsF 0 (rs.take k)
  m : HM wr w.heap.size wr.heap.size h P
  b : Below w.heap.size w wr
theorem parts_len : ∀ (rs : List (List En)) (i : Nat), (partsF i rs).length ≤ rs.length
  | [], _ => Nat.le_refl _
  | r :: rs, i => by
    have := parts_len rs (i + 1)
    unfold partsF
    split
    · simp; omega
    · simp; omega
theorem rowsF_bad : ∀ {rs : List (List En)} {k : Nat} (hk : k < rs.length), (∀ j (hj : j < k), rowF (rs[j]'(by omega)) = 0) → rowF rs[k] ≠ 0 → rowsF rs = rowF rs[k]
  | r :: rs, 0, _, _, h => by
    have h' : rowF r ≠ 0 := h
    unfold rowsF; rw [if_neg h']; rfl
  | r :: rs, k + 1, hk, hj, h => by
    have h0 : rowF r = 0 := hj 0 (by omega)
    unfold rowsF
    rw [if_pos h0]
    exact rowsF_bad (rs := rs) (k := k) (by simpa using hk) (fun j hj2 => by have := hj (j + 1) (by omega); simpa using this) (by simpa using h)
theorem rReads_at {w : World} {rs : List (List En)} {b off n cap : Nat} (h : RReads w (.slice (some ⟨b, off, none⟩) n cap) rs) {k : Nat} (hk : k < rs.length) : ∃ ev, w.cell? ⟨b, off + k, none⟩ = some ev ∧ EReads w ev rs[k] := by
  obtain ⟨a, cap', hv, h1, h2, h3⟩ := h
  rcases h3 with rfl | ⟨b', off', h4, h5, h6⟩
  · simp at hk
  · simp at hv
    rw [h4] at hv
    simp at hv
    obtain ⟨⟨rfl, rfl⟩, _⟩ := hv
    exact h6 k hk
theorem rReads_some {w : World} {v : Value} {rs : List (List En)} (h : RReads w v rs) (h0 : 0 < rs.length) : ∃ b off cap, v = .slice (some ⟨b, off, none⟩) rs.length cap ∧ rs.length ≤ cap ∧ cap ≤ maxLen ∧ b < w.heap.size := by
  obtain ⟨a, cap, rfl, h1, h2, h3⟩ := h
  rcases h3 with rfl | ⟨b, off, rfl, h5, h6⟩
  · simp at h0
  · exact ⟨b, off, cap, rfl, h1, h2, h5⟩
set_option maxRecDepth 100000 in
set_option maxHeartbeats 4000000 in
theorem new_some (b off cap : Nat) (rs : List (List En)) (w : World) (hR : RReads w (.slice (some ⟨b, off, none⟩) rs.length cap) rs) (hl1 : rs.length ≤ 10000) (hl2 : ∀ r ∈ rs, r.length ≤ 100000) (hl3 : ∀ r ∈ rs, ∀ x ∈ r, x.1.length ≤ 100000) :
    Calls Try.prog 23 #[.slice (some ⟨b, off, none⟩) rs.length cap] w (NwPost rs w) := by
  have HR : Hid (RReads w (.slice (some ⟨b, off, none⟩) rs.length cap) rs) := hR
  have HL2 : Hid _ := hl2
  have HL3 : Hid _ := hl3
  clear hR hl2 hl3
  go_enter Try.func23, Try.ntmps23
  go_wp2_with fail
  go_loopw [13] (fun i wr => ∃ k : Nat, ∃ hk : k ≤ rs.length, i = .int .i64 (k : Int) ∧ Hid (∀ j (hj : j < k), rowF (rs[j]'(by omega)) = 0) ∧ Hid (Below w.heap.size w wr)) (fun i _ => rs.length - (intOf i).toNat)
  case atStart => exact ⟨0, by omega, rfl, fun j hj => by omega, Below.refl _ _⟩
  case round =>
    obtain ⟨k, hk, rfl, HJ, HB⟩ := hrel
    by_cases hlt : k < rs.length
    · obtain ⟨ev, hcv, hev⟩ := rReads_at (HR.out.below HB.out) hlt
      obtain ⟨ea, ec, hef, _⟩ := hev.form
      subst hef
      have HEV : Hid (EReads wr (.slice ea rs[k].length ec) rs[k]) := hev
      have HBAD : Hid (rowF rs[k] ≠ 0 → rowsF rs = rowF rs[k]) := rowsF_bad hlt HJ.out
      have HNJ : Hid (rowF rs[k] = 0 → ∀ j (hj : j < k + 1), rowF (rs[j]'(by omega)) = 0) := fun h0 j hj => by
        rcases Nat.lt_or_ge j k with h1 | h1
        · exact HJ.out j h1
        · obtain rfl : j = k := by omega
          exact h0
      clear hev
      obtain ⟨r, Hr⟩ := hid_ex rs[k]
      rw [← Hr.out] at HEV hcv HBAD HNJ
      go_wp2_with fail
      refine (isRow_any _ r _ HEV.out).mono ?_
      rintro e w1 ⟨rfl, hb1⟩
      have HB1 : Hid (Below w.heap.size w w1) := HB.out.trans (hb1.mono HB.out.size)
      clear hb1 hcv HEV
      by_cases h0 : rowF r = 0
      · have hb0 : (rowF r == 0) = true := by simp [h0]
        have HN := HNJ.out h0
        have HN' : Hid _ := HN
        clear HN h0 HBAD HNJ
        generalize rowF r = rr at *
        go_wp2_with fail
        go_roundw
        case rel => exact ⟨k + 1, by omega, by go_num, HN'.out, HB1⟩
        case measure => simp [intOf]; omega
      · have hb0 : (rowF r == 0) = false := by simp [h0]
        have HZ : Hid (rowsF rs = rowF r) := HBAD.out h0
        have H0 : Hid (rowF r ≠ 0) := h0
        clear h0 HBAD HNJ
        generalize rowF r = rr at *
        go_wp2_with fail
        go_ret2
        exact ⟨HB1.out, .inl ⟨by rw [HZ.out]; exact H0.out, by rw [HZ.out]; rfl⟩⟩
    · have HZ : Hid (rowsF rs = 0) := rowsF_ok.2 (fun r hr => by
        obtain ⟨j, hj, rfl⟩ := List.getElem_of_mem hr
        exact HJ.out j (by omega))
      have HI0 : Hid (NwI rs w wr.heap.size 0 [] (wr.alloc (.cells #[.slice none 0 0] 101))) := by
        refine ⟨rfl, ⟨HB.out.size, by simp, ⟨.slice none 0 0, heap_alloc_new _ _, World.ownsRow_nil _ _ _ _, fun k hk => by simp [Value.ownBlock] at hk⟩, fun p hp => (by cases hp), List.nodup_nil, by simp⟩, HB.out.alloc HB.out.size _⟩
      go_wp2_with fail
      clear HJ
      obtain ⟨hN, HhN⟩ := hid_ex wr.heap.size
      obtain ⟨wz, Hwz⟩ := hid_ex (wr.alloc (.cells #[.slice none 0 0] 101))
      rw [← HhN.out] at HI0 ⊢
      rw [← Hwz.out] at HI0 ⊢
      clear HhN Hwz HB hk hlt
      go_loopw [27] (fun i wq => ∃ (k : Nat) (P : List Pt), k ≤ rs.length ∧ i = .int .i64 (k : Int) ∧ Hid (NwI rs w hN k P wq)) (fun i _ => rs.length - (intOf i).toNat)
      case atStart => exact ⟨0, [], by omega, rfl, HI0⟩
      case round =>
        clear HI0
        obtain ⟨k, P, hk, rfl, HI⟩ := hrel
        by_cases hlt : k < rs.length
        · obtain ⟨ev, hcv, hev⟩ := rReads_at (HR.out.below HI.out.b) hlt
          obtain ⟨ea, ec, hef, _⟩ := hev.form
          subst hef
          have hrl := HL2.out rs[k] (List.getElem_mem hlt)
          have HRK : Hid _ := HL3.out rs[k] (List.getElem_mem hlt)
          have HEV : Hid (EReads wr (.slice ea rs[k].length ec) rs[k]) := hev
          have HSN : Hid (partsF 0 (rs.take (k + 1)) = partsF 0 (rs.take k) ++ (if rs[k] = [] then [] else [(rs[k], k)])) := partsF_snoc hlt
          clear hev
          obtain ⟨r, Hr⟩ := hid_ex rs[k]
          rw [← Hr.out] at HEV hcv HSN hrl HRK
          rcases Nat.eq_zero_or_pos r.length with h0 | h0
          · have HN : Hid (NwI rs w hN (k + 1) P wr) := ⟨by rw [HSN.out, if_pos (List.length_eq_zero_iff.1 h0), List.append_nil]; exact HI.out.p, HI.out.m, HI.out.b⟩
            go_wp2_with fail
            go_roundw
            case rel => exact ⟨k + 1, P, by omega, by go_num, HN⟩
            case measure => simp [intOf]; omega
          · obtain ⟨eb, eo, ec', hef, _⟩ := eReads_some HEV.out h0
            simp at hef
            obtain ⟨rfl, rfl⟩ := hef
            have hlenP : P.length < 100000 := by
              have h1 := congrArg List.length HI.out.p
              have h2 := parts_len (rs.take k) 0
              simp at h1 h2
              omega
            obtain ⟨a, cap0, e1, e2, e3, e4, e5⟩ := HI.out.m.arr
            have x1 := (cell_row e1 0 (by simp)).1
            simp only [List.getElem_toArray, List.getElem_cons_zero] at x1
            have hbh := (Array.getElem?_eq_some_iff.1 e1).1
            have E1 : Hid _ := e1
            have E2 : Hid _ := e2
            clear e1 e2 e5
            go_wp2_with fail
            refine wp_region_noPanic ?_
            refine wp_region_S 13 (fun _ => True) (fun w' => w'.cell? ⟨hN, 0, none⟩ = some (.slice a P.length cap0)) (by kernel_rfl) ?_ ?_ (fun hHeld => ?_)
            · trivial
            · exact x1
            refine wpAnyS_take (i := 0) (v := .pointer (some ⟨hN, 0, none⟩)) _ rfl (by kernel_rfl) (by kernel_rfl) (by kernel_rfl) (by kernel_rfl) (by kernel_rfl) rfl (fun _ _ _ h => h) (Or.inl ⟨by rfl, ?_⟩) hHeld (fun hHeld => ?_)
            · (intro w1 hSw; have hSw := hSw.1; (try dsimp only at hSw); go_simp)
            simp only [List.getElem_toArray, List.getElem_cons_zero, Act.put, List.setIfInBounds_toArray, List.set_cons_zero, List.set_cons_succ]
            refine wpAnyS_take (i := 1) (v := .pointer (some ⟨hN, 0, none⟩)) _ rfl (by kernel_rfl) (by kernel_rfl) (by kernel_rfl) (by kernel_rfl) (by kernel_rfl) rfl (fun _ _ _ h => h) (Or.inl ⟨by rfl, ?_⟩) hHeld (fun hHeld => ?_)
            · (intro w1 hSw; have hSw := hSw.1; (try dsimp only at hSw); go_simp)
            simp only [List.getElem_toArray, List.getElem_cons_succ, List.getElem_cons_zero, Act.put, List.setIfInBounds_toArray, List.set_cons_zero, List.set_cons_succ]
            refine wpAnyS_take (i := 2) (v := .pointer (some ⟨hN, 0, none⟩)) _ rfl (by kernel_rfl) (by kernel_rfl) (by kernel_rfl) (by kernel_rfl) (by kernel_rfl) rfl (fun _ _ _ h => h) (Or.inl ⟨by rfl, ?_⟩) hHeld (fun hHeld => ?_)
            · (intro w1 hSw; have hSw := hSw.1; (try dsimp only at hSw); go_simp)
            simp only [List.getElem_toArray, List.getElem_cons_succ, List.getElem_cons_zero, Act.put, List.setIfInBounds_toArray, List.set_cons_zero, List.set_cons_succ]
            refine wpAnyS_take (i := 3) (v := .pointer (some ⟨hN, 0, none⟩)) _ rfl (by kernel_rfl) (by kernel_rfl) (by kernel_rfl) (by kernel_rfl) (by kernel_rfl) rfl (fun _ _ _ h => h) (Or.inl ⟨by rfl, ?_⟩) hHeld (fun hHeld => ?_)
            · (intro w1 hSw; have hSw := hSw.1; (try dsimp only at hSw); go_simp)
            simp only [List.getElem_toArray, List.getElem_cons_succ, List.getElem_cons_zero, Act.put, List.setIfInBounds_toArray, List.set_cons_zero, List.set_cons_succ]
            refine wpAnyS_take (i := 4) (v := .slice a P.length cap0) true rfl (by kernel_rfl) (by kernel_rfl) (by kernel_rfl) (by kernel_rfl) (by kernel_rfl) (by kernel_rfl) (fun _ _ _ h => h) (Or.inl ⟨by rfl, ?_⟩) hHeld (fun hHeld => ?_)
            · (intro w1 hSw; have hSw2 := hSw.2 rfl; have hSw := hSw.1; (try dsimp only at hSw hSw2); go_simp)
            simp only [List.getElem_toArray, List.getElem_cons_succ, List.getElem_cons_zero, Act.put, List.setIfInBounds_toArray, List.set_cons_zero, List.set_cons_succ]
            refine wpAnyS_take (i := 5) (v := .slice (some ⟨eb, eo, none⟩) r.length ec) _ rfl (by kernel_rfl) (by kernel_rfl) (by kernel_rfl) (by kernel_rfl) (by kernel_rfl) rfl (fun _ _ _ h => h) (Or.inl ⟨by rfl, ?_⟩) hHeld (fun hHeld => ?_)
            · (intro w1 hSw; have hSw := hSw.1; (try dsimp only at hSw); go_simp)
            simp only [List.getElem_toArray, List.getElem_cons_succ, List.getElem_cons_zero, Act.put, List.setIfInBounds_toArray, List.set_cons_zero, List.set_cons_succ]
            refine wpAnyS_take (i := 7) (v := .int .i64 (k : Int)) _ rfl (by kernel_rfl) (by kernel_rfl) (by kernel_rfl) (by kernel_rfl) (by kernel_rfl) rfl (fun _ _ _ h => h) (Or.inl ⟨by rfl, ?_⟩) hHeld (fun hHeld => ?_)
            · (intro w1 hSw; have hSw := hSw.1; (try dsimp only at hSw); go_simp)
            simp only [List.getElem_toArray, List.getElem_cons_succ, List.getElem_cons_zero, Act.put, List.setIfInBounds_toArray, List.set_cons_zero, List.set_cons_succ]
            refine wpAnyS_ready (i := 6) (by kernel_rfl) rfl (fun K hK => ?_)
            go_simp
            refine (copied_some eb eo ec r _ (HEV.out.below (Below.refl _ _).drew) hrl HRK.out).mono ?_
            rintro e w3 ⟨g, xs, rfl, ho3, hm3, hb3⟩
            go_simp
            have hb3' : Below wr.heap.size wr w3 := (Below.refl wr.heap.size wr).drew.trans hb3
            refine hK.out _ _ ⟨?_, fun _ => ?_⟩ (fun hHeld => ?_)
            · trivial
            · exact (hb3'.cell (p := ⟨hN, 0, none⟩) hbh).trans x1
            clear hK K
            refine wpAnyS_take (i := 8) (v := .agg #[.slice (some ⟨g, 0, none⟩) r.length r.length, .int .i64 (k : Int)]) _ rfl (by kernel_rfl) (by kernel_rfl) (by kernel_rfl) (by kernel_rfl) (by kernel_rfl) rfl (fun _ _ _ h => h) (Or.inl ⟨by rfl, ?_⟩) hHeld (fun hHeld => ?_)
            · (intro w1 hSw; have hSw := hSw.1; (try dsimp only at hSw); go_simp)
            simp only [List.getElem_toArray, List.getElem_cons_succ, List.getElem_cons_zero, Act.put, List.setIfInBounds_toArray, List.set_cons_zero, List.set_cons_succ]
            refine wpAnyS_ready (i := 9) (by kernel_rfl) rfl (fun K hK => ?_)
            go_simp
            have hxl : xs.length = r.length := by have := congrArg List.length hm3; simpa using this
            have HM3 : Hid (HM w3 w.heap.size w3.heap.size hN P) := (HI.out.m.below hb3').mono hb3'.size
            have hrow3 := row_kp E2.out (Kp.of_below hb3')
            have hv3 : w3.heap[hN]? = some (.cells #[.slice a P.length cap0] 101) := (hb3'.block _ hbh).trans E1.out
            have hlo3 : w.heap.size ≤ w3.heap.size := Nat.le_trans HI.out.b.size hb3'.size
            obtain ⟨i0, hi, hz0, hz1, hz2⟩ := info_parts infoPt
            obtain ⟨v5, w5, hr5, hown5, hg5, _⟩ := run_append_own (P := Try.prog) (w3.alloc (.cells #[.slice (some ⟨g, 0, none⟩) r.length r.length, .int .i64 (k : Int)] 104)) w.heap.size 99 99 104 i0 (.agg #[.slice none 0 0, .int .i64 0]) 2 32 Try.underlying99 hi hz0 hz1 hz2 rfl (by decide) (.slice a P.length cap0) P.length (P.flatMap p2) (World.ownsRow.alloc hrow3 _) ⟨w3.heap.size, 0, none⟩ 1 1 [.slice (some ⟨g, 0, none⟩) r.length r.length, .int .i64 (k : Int)] rfl news2 (by intro u hu; simp at hu; rcases hu with rfl | rfl <;> rfl) (by unfold maxLen; omega) (by omega) (by simp; omega)
            obtain ⟨g5, cap5, hv5⟩ := Go.Joins.ownsRow_form hown5 (by omega)
            subst hv5
            have HADD : Hid _ := HM.add (p := ⟨g, 0, r.length, xs, k⟩) HM3.out hv3 hrow3 (ptOk_of ho3 HI.out.b.size hxl h0 (World.ownsRow.lt ho3.1 g rfl).2) (fun q hq e => by
              have h1 := (HI.out.m.pt q hq).g2
              have h2 := (World.ownsRow.lt ho3.1 g rfl).1
              have h3 : wr.drew.heap.size = wr.heap.size := rfl
              simp only at e
              omega) hlenP (by unfold lv; rw [hxl]; exact hown5) hg5
            have hh5 : w5.heap[hN]? = some (.cells #[.slice a P.length cap0] 101) := by
              rw [hg5.block hN (by simp; have := (Array.getElem?_eq_some_iff.1 hv3).1; omega) (fun e => ?_)]
              · exact (Below.heap_alloc _ _ _ (Array.getElem?_eq_some_iff.1 hv3).1).trans hv3
              · rcases hrow3.2 with ⟨q, _⟩ | ⟨g0, c0, cur, q, _, hw, _⟩
                · simp at q; rw [q.1] at e; simp [Value.ownBlock] at e
                · simp at q
                  rw [q.1] at e
                  simp [Value.ownBlock] at e
                  subst e
                  rw [hv3] at hw
                  simp at hw
            have x5 := (cell_row hh5 0 (by simp)).1
            have f5 := (cell_row hh5 0 (by simp)).2
            simp only [List.getElem_toArray, List.getElem_cons_zero] at x5
            have x4 : (w3.alloc (.cells #[.slice (some ⟨g, 0, none⟩) r.length r.length, .int .i64 (k : Int)] 104)).cell? ⟨hN, 0, none⟩ = some (.slice a P.length cap0) := (World.cell?_of_block (Below.heap_alloc _ _ _ (Array.getElem?_eq_some_iff.1 hv3).1)).trans ((hb3'.cell (p := ⟨hN, 0, none⟩) hbh).trans x1)
            have HNX : Hid (NwI rs w hN (k + 1) (P ++ [⟨g, 0, r.length, xs, k⟩]) (w5.setCell ⟨hN, 0, none⟩ (.slice (some ⟨g5, 0, none⟩) (P.length + 1) cap5))) := by
              obtain ⟨q1, q2, q3⟩ := HADD.out
              refine ⟨?_, by rw [q3]; exact q1, (HI.out.b.trans (hb3'.mono HI.out.b.size)).trans q2⟩
              rw [HSN.out, if_neg (fun e => by rw [e] at h0; simp at h0), List.map_append, HI.out.p]
              show _ ++ [(xs.map evE, k)] = _
              rw [hm3]
            clear HADD HM3 hrow3 hv3 hown5 hg5 hh5 hi hz0 hz1 hz2 ho3 hm3 hb3 hb3'
            refine hK.out _ _ ⟨?_, fun _ => ?_⟩ (fun hHeld => ?_)
            · trivial
            · exact x4
            clear hK K
            refine wpAnyS_ready (i := 10) (by kernel_rfl) rfl (fun K hK => ?_)
            rw [if_pos (by rfl)]
            refine wp_app_run _ _ _ _ rfl rfl _ _ _ rfl rfl hr5 ?_
            refine hK.out _ _ ⟨?_, fun _ => ?_⟩ (fun hHeld => ?_)
            · trivial
            · exact x5
            clear hK K
            simp only [List.getElem_toArray, List.getElem_cons_succ, List.getElem_cons_zero, Act.put, List.setIfInBounds_toArray, List.set_cons_zero, List.set_cons_succ]
            refine wpAnyS_take (i := 11) (v := .pointer (some ⟨hN, 0, none⟩)) _ rfl (by kernel_rfl) (by kernel_rfl) (by kernel_rfl) (by kernel_rfl) (by kernel_rfl) rfl (fun _ _ _ h => h) (Or.inl ⟨by rfl, ?_⟩) hHeld (fun hHeld => ?_)
            · (intro w1 hSw; have hSw := hSw.1; (try dsimp only at hSw); go_simp)
            simp only [List.getElem_toArray, List.getElem_cons_succ, List.getElem_cons_zero, Act.put, List.setIfInBounds_toArray, List.set_cons_zero, List.set_cons_succ]
            refine wpAnyS_take (i := 12) (v := .pointer (some ⟨hN, 0, none⟩)) _ rfl (by kernel_rfl) (by kernel_rfl) (by kernel_rfl) (by kernel_rfl) (by kernel_rfl) rfl (fun _ _ _ h => h) (Or.inl ⟨by rfl, ?_⟩) hHeld (fun hHeld => ?_)
            · (intro w1 hSw; have hSw := hSw.1; (try dsimp only at hSw); go_simp)
            simp only [List.getElem_toArray, List.getElem_cons_succ, List.getElem_cons_zero, Act.put, List.setIfInBounds_toArray, List.set_cons_zero, List.set_cons_succ]
            refine wpAnyS_ready (i := 13) (by kernel_rfl) rfl (fun K hK => ?_)
            go_simp
            refine hK.out _ _ ⟨?_, fun hno => absurd hno (by decide)⟩ (fun hHeld => ?_)
            · trivial
            clear hK K
            refine wpAnyS_done (by kernel_rfl) ?_ _
            refine NoPanic.normal ?_
            go_wp2_with fail
            go_roundw
            case rel => exact ⟨k + 1, _, by omega, by go_num, HNX⟩
            case measure => simp [intOf]; omega
        · have HP : Hid (P.map paP = partsF 0 rs) := by
            have h1 := HI.out.p
            rw [List.take_of_length_le (by omega)] at h1
            exact h1
          have hPl := HI.out.m.le
          have HM0 : Hid (HM wr w.heap.size wr.heap.size hN P) := HI.out.m
          have HB0 : Hid (Below w.heap.size w wr) := HI.out.b
          obtain ⟨a, cap0, e1, _⟩ := HI.out.m.arr
          have x1 := (cell_row e1 0 (by simp)).1
          simp only [List.getElem_toArray, List.getElem_cons_zero] at x1
          obtain ⟨hs, Hhs⟩ := hid_ex wr.heap.size
          rw [← Hhs.out] at HM0
          have HZ0 : Hid (hs ≤ wr.heap.size) := by unfold Hid; rw [Hhs.out]; omega
          have HQ0 : Hid (HQ lePt ptZ P (P.length / 2)) := fun i h1 h2 h3 => by omega
          have hdv : ((P.length : Int) / 2) = ((P.length / 2 : Nat) : Int) := by omega
          obtain ⟨m, Hm⟩ := hid_ex (P.length / 2)
          rw [← Hm.out] at HQ0 hdv
          have hm5 : m ≤ 50000 := by rw [Hm.out]; omega
          clear e1 HI Hhs
          go_wp2_with fail
          clear hlt hk x1 hdv
          go_loopw [10] (fun i wq => ∃ (s : Nat) (P' : List Pt), s ≤ 50000 ∧ i = .int .i64 ((s : Int) - 1) ∧ Hid (HM wq w.heap.size hs hN P') ∧ Hid (P'.Perm P) ∧ Hid (HQ lePt ptZ P' s) ∧ Hid (hs ≤ wq.heap.size) ∧ Hid (Below w.heap.size w wq)) (fun i _ => (intOf i + 1).toNat)
          case atStart => exact ⟨m, P, hm5, rfl, HM0, List.Perm.refl _, HQ0, HZ0, HB0⟩
          case round =>
            clear HM0 HQ0 HZ0 HB0
            obtain ⟨s, P', hs5, rfl, HM1, HP1, HQ1, HZ1, HB1⟩ := hrel
            rcases Nat.eq_zero_or_pos s with h0 | h0
            · subst h0
              have HEnd : Hid (NwPost rs w (.returned (.tuple #[.pointer (some ⟨hN, 0, none⟩), .int .i64 0])) wr) := by
                refine ⟨HB1.out, .inr ⟨HZ.out, hN, hs, rfl, ⟨P', HM1.out, HQ1.out, ?_, ?_⟩, seqF_pw HZ.out, HZ1.out⟩⟩
                · have h1 := good_parts HZ.out 0
                  rw [← HP.out] at h1
                  exact h1.perm (HP1.out.map paP)
                · have h1 : (seqF rs).Perm (tagsF 0 rs) := srtG_perm _
                  rw [← tags_parts, ← HP.out] at h1
                  exact h1.trans (tags_perm (HP1.out.map paP)).symm
              go_wp2_with fail
              go_ret2
              exact HEnd.out
            · obtain ⟨j, rfl⟩ : ∃ j, s = j + 1 := ⟨s - 1, by omega⟩
              have ej : ((j + 1 : Nat) : Int) - 1 = (j : Int) := by omega
              rw [ej]
              clear ej h0
              go_wp2_with fail
              refine (sink_any w.heap.size hs hN P' j (by omega) _ HM1.out HZ1.out HQ1.out).mono ?_
              rintro e w6 ⟨⟨v6, rfl⟩, P2, hm6, hp6, hq6, hf6⟩
              have HM6 : Hid _ := hm6
              have HP6 : Hid _ := hp6.trans HP1.out
              have HQ6 : Hid _ := hq6
              have HZ6 : Hid _ := Nat.le_trans HZ1.out hf6.b.size
              have HB6 : Hid _ := HB1.out.trans hf6.b
              clear hm6 hp6 hq6 hf6 HM1 HP1 HQ1 HZ1 HB1
              go_wp2_with fail
              go_roundw
              case rel => exact ⟨j, P2, by omega, by go_num, HM6.out, HP6.out, HQ6.out, HZ6.out, HB6.out⟩
              case measure => simp [intOf]
set_option maxRecDepth 100000 in
set_option maxHeartbeats 2000000 in
theorem new_none (a : Option Addr) (cap : Nat) (w : World) : Calls Try.prog 23 #[.slice a 0 cap] w (NwPost [] w) := by
  have HEnd : Hid (∀ W, W = w.alloc (.cells #[.slice none 0 0] 101) → NwPost [] w (.returned (.tuple #[.pointer (some ⟨w.heap.size, 0, none⟩), .int .i64 0])) W) := by
    rintro W rfl
    refine ⟨(Below.refl _ _).alloc (Nat.le_refl _) _, .inr ⟨rfl, w.heap.size, w.heap.size + 1, rfl, ⟨[], ⟨Nat.le_refl _, by omega, ⟨.slice none 0 0, heap_alloc_new _ _, World.ownsRow_nil _ _ _ _, fun k hk => by simp [Value.ownBlock] at hk⟩, fun p hp => (by cases hp), List.nodup_nil, by simp⟩, fun i hi => (by simp at hi), ⟨fun p hp => (by cases hp), fun p hp => (by cases hp), List.nodup_nil⟩, ?_⟩, ?_, by simp⟩⟩
    · exact srtG_perm _
    · exact seqF_pw rfl
  go_enter Try.func23, Try.ntmps23
  go_wp2_with fail
  go_loopw [13] (fun i wr => i = .int .i64 0 ∧ Hid (wr = w)) (fun _ _ => 0)
  case atStart => exact ⟨rfl, rfl⟩
  case round =>
    obtain ⟨rfl, HW⟩ := hrel
    obtain rfl := HW.out
    clear HW
    go_wp2_with fail
    obtain ⟨hN, HhN⟩ := hid_ex wr.heap.size
    obtain ⟨wz, Hwz⟩ := hid_ex (wr.alloc (.cells #[.slice none 0 0] 101))
    have HCZ : Hid (wz.cell? ⟨hN, 0, none⟩ = some (.slice none 0 0)) := by rw [Hwz.out, HhN.out]; exact (cell_row (heap_alloc_new _ _) 0 (by simp)).1
    have HE2 : Hid (NwPost [] wr (.returned (.tuple #[.pointer (some ⟨hN, 0, none⟩), .int .i64 0])) wz) := by rw [HhN.out]; exact HEnd.out wz Hwz.out
    rw [← HhN.out]
    rw [← Hwz.out]
    clear HhN Hwz HEnd
    go_loopw [27] (fun i wq => i = .int .i64 0 ∧ Hid (wq = wz)) (fun _ _ => 0)
    case atStart => exact ⟨rfl, rfl⟩
    case round =>
      obtain ⟨rfl, HW⟩ := hrel
      obtain rfl := HW.out
      clear HW
      have hcz := HCZ.out
      go_wp2_with fail
      go_loopw [10] (fun i wq => i = .int .i64 (-1) ∧ Hid (wq = wr)) (fun _ _ => 0)
      case atStart => exact ⟨rfl, rfl⟩
      case round =>
        obtain ⟨rfl, HW⟩ := hrel
        obtain rfl := HW.out
        clear HW
        go_wp2_with fail
        go_ret2
        exact HE2.out
theorem new_any (v : Value) (rs : List (List En)) (w : World) (hR : RReads w v rs) (hl1 : rs.length ≤ 10000) (hl2 : ∀ r ∈ rs, r.length ≤ 100000) (hl3 : ∀ r ∈ rs, ∀ x ∈ r, x.1.length ≤ 100000) : Calls Try.prog 23 #[v] w (NwPost rs w) := by
  rcases Nat.eq_zero_or_pos rs.length with h0 | h0
  · obtain ⟨a, cap, rfl, _⟩ := hR
    obtain rfl : rs = [] := List.length_eq_zero_iff.1 h0
    exact new_none a cap w
  · obtain ⟨b, off, cap, rfl, _⟩ := rReads_some hR h0
    exact new_some b off cap rs w hR hl1 hl2 hl3
end Go.Proofs.Ytbadjigfcncfcaa

/- All rows together: what the loop of All keeps. -/
namespace Go.Proofs.Ytbadjigfcncfcaa
open Go.RowKit

theorem addG_same {E : List En} {t : Tg} (h : 0 < E.length) (hk : (E[E.length - 1]'(by omega)).1 = t.1.1) : addG E t = E.set (E.length - 1) (t.1.1, mrg (E[E.length - 1]'(by omega)).2 t.2) := by
  rcases List.eq_nil_or_concat E with rfl | ⟨L, b, rfl⟩
  · simp at h
  · simp only [List.concat_eq_append] at hk ⊢
    have e1 : (L ++ [b])[(L ++ [b]).length - 1]'(by simp) = b := by simp
    rw [e1] at hk ⊢
    unfold addG
    simp only [List.getLast?_append, List.getLast?_singleton, Option.some_or, List.dropLast_concat]
    rw [if_pos hk, hk, List.length_append]
    simp
theorem addG_new {E : List En} {t : Tg} (h : ∀ h0 : 0 < E.length, (E[E.length - 1]'(by omega)).1 ≠ t.1.1) : addG E t = E ++ [(t.1.1, t.2)] := by
  rcases List.eq_nil_or_concat E with rfl | ⟨L, b, rfl⟩
  · rfl
  · simp only [List.concat_eq_append] at h ⊢
    have e1 : (L ++ [b])[(L ++ [b]).length - 1]'(by simp) = b := by simp
    have h1 := h (by simp)
    rw [e1] at h1
    unfold addG
    simp only [List.getLast?_append, List.getLast?_singleton, Option.some_or]
    rw [if_neg h1]
theorem grpG_snoc (D : List Tg) (t : Tg) : grpG (D ++ [t]) = addG (grpG D) t := by unfold grpG; rw [List.foldl_append]; rfl
theorem addG_len (E : List En) (t : Tg) : (addG E t).length ≤ E.length + 1 := by
  by_cases h : ∃ h0 : 0 < E.length, (E[E.length - 1]'(by omega)).1 = t.1.1
  · obtain ⟨h0, h1⟩ := h
    rw [addG_same h0 h1, List.length_set]; omega
  · rw [addG_new (fun h0 h1 => h ⟨h0, h1⟩)]; simp
theorem grpG_len (D : List Tg) : (grpG D).length ≤ D.length := by
  have : ∀ (D : List Tg) (E : List En), (D.foldl addG E).length ≤ E.length + D.length := by
    intro D
    induction D with
    | nil => intro E; simp
    | cons t D ih => intro E; have h1 := ih (addG E t); have h2 := addG_len E t; simp only [List.foldl_cons, List.length_cons]; omega
  have := this D []
  simpa [grpG] using this
theorem mrg_cn {a b : Ag} (ha : CnOk a) (hb : CnOk b) : CnOk (mrg a b) := by
  unfold mrg
  split
  · exact hb
  · split
    · exact ha
    · have h1 := ha.1
      have h2 := hb.1
      unfold CnOk
      simp only [cntF]
      split <;> omega
theorem tags_cn : ∀ (rs : List (List En)) (i : Nat), (∀ r ∈ rs, ∀ x ∈ r, CnOk x.2) → ∀ t ∈ tagsF i rs, CnOk t.2
  | [], _, _, t, h => by simp [tagsF] at h
  | r :: rs, i, hr, t, h => by
    unfold tagsF at h
    rcases List.mem_append.1 h with h | h
    · unfold tagP at h
      obtain ⟨x, hx, rfl⟩ := List.mem_map.1 h
      exact hr r (List.mem_cons_self ..) x hx
    · exact tags_cn rs (i + 1) (fun r' hr' => hr r' (List.mem_cons_of_mem _ hr')) t h
theorem tags_len : ∀ (rs : List (List En)) (i : Nat), (∀ r ∈ rs, r.length ≤ 100000) → (tagsF i rs).length ≤ rs.length * 100000
  | [], _, _ => by simp [tagsF]
  | r :: rs, i, h => by
    have h1 := tags_len rs (i + 1) (fun r' hr' => h r' (List.mem_cons_of_mem _ hr'))
    have h2 := h r (List.mem_cons_self ..)
    unfold tagsF
    rw [List.length_append]
    unfold tagP
    simp
    omega
theorem seq_cn {rs : List (List En)} (h : ∀ r ∈ rs, ∀ x ∈ r, CnOk x.2) : ∀ t ∈ seqF rs, CnOk t.2 := fun t ht => tags_cn rs 0 h t ((srtG_perm _).mem_iff.1 ht)
theorem seq_len {rs : List (List En)} (h : ∀ r ∈ rs, r.length ≤ 100000) : (seqF rs).length ≤ rs.length * 100000 := by
  unfold seqF
  rw [(srtG_perm _).length_eq]; exact tags_len rs 0 h
/-- Six cells of what is known. -/
def a6 (a : Ag) : List Value := [.int .u64 a.c, .bool a.o, .int .i64 (hi a.s), .int .u64 (lo a.s), .int .i64 a.mn, .int .i64 a.mx]
theorem row_setA {w W : World} {base g n cap k : Nat} {cur : Array Value} {ys : List Ev} {a : Ag} (h : w.ownsRow base 59 7 (.slice (some ⟨g, 0, none⟩) n cap) n (ys.flatMap c7)) (hcur : w.heap[g]? = some (.cells cur 59))
    (hW : StW w W g (k * 7 + 1) cur 59 (a6 a)) (hk : k < ys.length) (hn : ys.length = n) : W.ownsRow base 59 7 (.slice (some ⟨g, 0, none⟩) n cap) n ((ys.set k ⟨ys[k].kv, ys[k].k, a⟩).flatMap c7) := by
  have hcell := h
  obtain ⟨h1, h2⟩ := h
  rcases h2 with ⟨h2, _⟩ | ⟨g', cap', cur0, hv, hg, hw, hc, hx, hs, ht⟩
  · simp at h2
  · have hv' := hv
    simp at hv'
    obtain ⟨rfl, rfl⟩ := hv'
    obtain rfl : cur0 = cur := by rw [hw] at hcur; simpa using hcur
    refine row_set7 (y := ⟨ys[k].kv, ys[k].k, a⟩) hcell hw ⟨hW.b, hW.o, ?_⟩ hn
    obtain ⟨cur', k1, k2, k3, k4⟩ := hW.c
    refine ⟨cur', k1, k2, fun j hj => k3 j ?_, fun i hi => ?_⟩
    · rw [c7_len] at hj
      show j < k * 7 + 1 ∨ k * 7 + 1 + 6 ≤ j
      omega
    · have hi7 : i < 7 := hi
      cases i with
      | zero =>
        rw [Nat.add_zero, k3 (k * 7) (.inl (by omega))]
        have h3 := flat7 ys k 0 hk (by decide)
        rw [← ht, List.getElem?_take, if_pos (by omega), Array.getElem?_toList] at h3
        rw [show k * 7 = 7 * k + 0 by omega, h3]; rfl
      | succ i =>
        have := k4 i (by show i < 6; omega)
        rw [show k * 7 + (i + 1) = k * 7 + 1 + i by omega, this]
        rfl
/-- The entries that All has so far. -/
structure AlE (lo hh : Nat) (v : Value) (xs : List Ev) (E : List En) (w : World) : Prop where
  r : w.ownsRow hh 59 7 v xs.length (xs.flatMap c7)
  k : ∀ x ∈ xs, Own w lo x.kv x.k
  m : xs.map evE = E
  c : ∀ x ∈ xs, CnOk x.a
theorem AlE.below {lo hh : Nat} {v : Value} {xs : List Ev} {E : List En} {A B : World} (h : AlE lo hh v xs E A) (hb : Below A.heap.size A B) : AlE lo hh v xs E B :=
  ⟨row_kp h.r (Kp.of_below hb), fun x hx => (h.k x hx).below hb, h.m, h.c⟩
theorem AlE.fr {lo hh : Nat} {v : Value} {xs : List Ev} {E : List En} {A B : World} (h : AlE lo hh v xs E A) (hf : Fr lo hh A B) : AlE lo hh v xs E B := by
  refine ⟨?_, fun x hx => hf.own (h.k x hx), h.m, h.c⟩
  have hlt := World.ownsRow.lt h.r
  obtain ⟨h1, h2⟩ := h.r
  refine ⟨h1, ?_⟩
  rcases h2 with h2 | ⟨g, cap, cur, hv, hg, hw, r⟩
  · exact .inl h2
  · exact .inr ⟨g, cap, cur, hv, hg, (hf.h g hg (hlt g (by rw [hv]; rfl)).2).trans hw, r⟩
/-- The entry that All looks at, and what the heap still tells. -/
def AlT (lo hh h bx : Nat) (T : List Tg) (ok : Value) (w : World) : Prop := match T with
  | [] => ok = .bool false ∧ HS w lo hh h [] ∧ ∃ kv a, w.heap[bx]? = some (.cells (c7 ⟨kv, [], a⟩).toArray 59)
  | t :: T' => ok = .bool true ∧ HS w lo hh h T' ∧ ∃ kv, w.heap[bx]? = some (.cells (c7 ⟨kv, t.1.1, t.2⟩).toArray 59) ∧ Own w lo kv t.1.1
end Go.Proofs.Ytbadjigfcncfcaa

/- What comes of rows, put together: a row. -/
namespace Go.Proofs.Ytbadjigfcncfcaa

theorem snoc_ind {α : Type} {p : List α → Prop} (h0 : p []) (h1 : ∀ l x, p l → p (l ++ [x])) : ∀ l, p l := by
  intro l
  have : ∀ r : List α, p r.reverse := by
    intro r
    induction r with
    | nil => exact h0
    | cons x r ih => rw [List.reverse_cons]; exact h1 _ _ ih
  have h := this l.reverse
  rwa [List.reverse_reverse] at h
theorem mrg_right {a b : Ag} (ha : rightB a = true) (hb : rightB b = true) (ca : CnOk a) (cb : CnOk b) : rightB (mrg a b) = true := by
  unfold mrg
  by_cases h1 : a.c = 0
  · rw [if_pos h1]; exact hb
  · rw [if_neg h1]
    by_cases h2 : b.c = 0
    · rw [if_pos h2]; exact ha
    · rw [if_neg h2]
      obtain ⟨a1, a2⟩ := ca
      obtain ⟨b1, b2⟩ := cb
      unfold rightB at ha hb ⊢
      rw [if_neg h1] at ha
      rw [if_neg h2] at hb
      simp only [Bool.and_eq_true, decide_eq_true_eq, Bool.or_eq_true, Bool.not_eq_true', beq_iff_eq] at ha hb
      have hc : 0 < cntF a.c b.c := by unfold cntF; split <;> omega
      show (if cntF a.c b.c = 0 then _ else _) = true
      rw [if_neg (by omega)]
      simp only [Bool.and_eq_true, decide_eq_true_eq, Bool.or_eq_true, Bool.not_eq_true', beq_iff_eq]
      refine ⟨by unfold minF maxF; split <;> split <;> omega, ?_⟩
      by_cases h : 18446744073709551616 ≤ a.c + b.c
      · right; unfold cntF; rw [if_neg (by omega)]
      · have hov : ovF a.c b.c = false := by unfold ovF; simp; omega
        rw [hov]
        cases ho : a.o
        · cases ho2 : b.o
          · left; rfl
          · rcases hb.2 with h2 | h2
            · rw [ho2] at h2; cases h2
            · omega
        · rcases ha.2 with h2 | h2
          · rw [ho] at h2; cases h2
          · omega
/-- What is known of what has been put together so far. -/
structure Grp (D : List Tg) : Prop where
  so : (keysE (grpG D)).Pairwise ltK
  ri : ∀ x ∈ grpG D, rightB x.2 = true ∧ CnOk x.2
  la : ∀ h : 0 < (grpG D).length, ∀ h2 : 0 < D.length, ((grpG D)[(grpG D).length - 1]'(by omega)).1 = (D[D.length - 1]'(by omega)).1.1
  ne : 0 < D.length → 0 < (grpG D).length
  ke : ∀ x ∈ grpG D, ∃ t ∈ D, x.1 = t.1.1
theorem grp_all : ∀ D : List Tg, D.Pairwise ltG → (∀ t ∈ D, rightB t.2 = true ∧ CnOk t.2) → Grp D := by
  refine snoc_ind ?_ ?_
  · intro _ _
    exact ⟨List.Pairwise.nil, fun x hx => (by cases hx), fun h => (by simp [grpG] at h), fun h => (by simp at h), fun x hx => (by cases hx)⟩
  · intro D t ih hp hr
    rw [List.pairwise_append] at hp
    have hg := ih hp.1 (fun x hx => hr x (List.mem_append_left _ hx))
    have ht := hr t (by simp)
    by_cases hc : ∃ h0 : 0 < (grpG D).length, ((grpG D)[(grpG D).length - 1]'(by omega)).1 = t.1.1
    · obtain ⟨h0, h1⟩ := hc
      have e := addG_same h0 h1
      rw [← grpG_snoc] at e
      have hk : keysE (grpG (D ++ [t])) = keysE (grpG D) := by
        rw [e]
        unfold keysE
        rw [List.map_set]
        apply List.ext_getElem
        · simp
        · intro j h3 h4
          rw [List.getElem_set]; split
          · rename_i ej; subst ej; simp [h1]
          · rfl
      refine ⟨by rw [hk]; exact hg.so, fun x hx => ?_, fun h3 h4 => ?_, fun _ => by rw [e, List.length_set]; exact h0, fun x hx => ?_⟩
      · rw [e] at hx
        rcases List.mem_or_eq_of_mem_set hx with hx | rfl
        · exact hg.ri x hx
        · have h5 := hg.ri _ (List.getElem_mem (show (grpG D).length - 1 < (grpG D).length by omega))
          exact ⟨mrg_right h5.1 ht.1 h5.2 ht.2, mrg_cn h5.2 ht.2⟩
      · have e2 : (grpG (D ++ [t])).length = (grpG D).length := by rw [e, List.length_set]
        simp only [e2]
        have e3 : (grpG (D ++ [t]))[(grpG D).length - 1]'(by omega) = (t.1.1, mrg ((grpG D)[(grpG D).length - 1]'(by omega)).2 t.2) := by
          simp only [e]; simp
        rw [e3]; simp
      · rw [e] at hx
        rcases List.mem_or_eq_of_mem_set hx with hx | rfl
        · obtain ⟨d, hd, hd2⟩ := hg.ke x hx
          exact ⟨d, List.mem_append_left _ hd, hd2⟩
        · exact ⟨t, by simp, rfl⟩
    · have e := addG_new (t := t) (E := grpG D) (fun h0 h1 => hc ⟨h0, h1⟩)
      rw [← grpG_snoc] at e
      have hlast : ∀ x ∈ keysE (grpG D), ltK x t.1.1 := by
        intro x hx
        obtain ⟨i, hi, rfl⟩ := List.getElem_of_mem hx
        have hi' : i < (grpG D).length := by simpa [keysE] using hi
        have hD : 0 < D.length := by
          rcases Nat.eq_zero_or_pos D.length with h | h
          · rw [List.length_eq_zero_iff.1 h] at hi'; simp [grpG] at hi'
          · exact h
        have hla := hg.la (by omega) hD
        have hlt := hp.2.2 (D[D.length - 1]'(by omega)) (List.getElem_mem _) t (by simp)
        have hk : ltK ((grpG D)[(grpG D).length - 1]'(by omega)).1 t.1.1 := by
          rw [hla]
          rcases hlt with h | ⟨h, _⟩
          · exact h
          · exact absurd ⟨by omega, hla.trans h⟩ hc
        rcases Nat.lt_or_ge i ((grpG D).length - 1) with h5 | h5
        · have := List.pairwise_iff_getElem.1 hg.so i ((grpG D).length - 1) hi (by simp [keysE]; omega) h5
          simp only [keysE, List.getElem_map] at this ⊢
          exact ltK_trans this hk
        · have e5 : i = (grpG D).length - 1 := by omega
          subst e5
          simp only [keysE, List.getElem_map]
          exact hk
      refine ⟨?_, fun x hx => ?_, fun h3 h4 => ?_, fun _ => by rw [e]; simp, fun x hx => ?_⟩
      · rw [e]
        unfold keysE
        rw [List.map_append, List.pairwise_append]
        refine ⟨hg.so, List.pairwise_singleton _ _, fun x hx y hy => ?_⟩
        obtain rfl : y = t.1.1 := by simpa using hy
        exact hlast x hx
      · rw [e] at hx
        rcases List.mem_append.1 hx with hx | hx
        · exact hg.ri x hx
        · obtain rfl : x = (t.1.1, t.2) := by simpa using hx
          exact ht
      · simp only [e]; simp
      · rw [e] at hx
        rcases List.mem_append.1 hx with hx | hx
        · obtain ⟨d, hd, hd2⟩ := hg.ke x hx
          exact ⟨d, List.mem_append_left _ hd, hd2⟩
        · obtain rfl : x = (t.1.1, t.2) := by simpa using hx
          exact ⟨t, by simp, rfl⟩
theorem tags_mem : ∀ (rs : List (List En)) (i : Nat), ∀ t ∈ tagsF i rs, ∃ r ∈ rs, (t.1.1, t.2) ∈ r
  | [], _, t, h => by simp [tagsF] at h
  | r :: rs, i, t, h => by
    unfold tagsF at h
    rcases List.mem_append.1 h with h | h
    · unfold tagP at h
      obtain ⟨x, hx, rfl⟩ := List.mem_map.1 h
      exact ⟨r, List.mem_cons_self .., hx⟩
    · obtain ⟨r', h1, h2⟩ := tags_mem rs (i + 1) t h
      exact ⟨r', List.mem_cons_of_mem _ h1, h2⟩
theorem seq_mem {rs : List (List En)} : ∀ t ∈ seqF rs, ∃ r ∈ rs, (t.1.1, t.2) ∈ r := fun t ht => tags_mem rs 0 t ((srtG_perm _).mem_iff.1 ht)
theorem all_grp {rs : List (List En)} (h : rowsF rs = 0) (hc : ∀ r ∈ rs, ∀ x ∈ r, CnOk x.2) : Grp (seqF rs) := by
  refine grp_all _ (seqF_pw h) (fun t ht => ?_)
  obtain ⟨r, hr, hx⟩ := seq_mem t ht
  exact ⟨(rowF_ok (rowsF_ok.1 h r hr)).2 _ hx, hc r hr _ hx⟩
/-- All rows together are a row. -/
theorem allF_row {rs : List (List En)} (h : rowsF rs = 0) (hc : ∀ r ∈ rs, ∀ x ∈ r, CnOk x.2) : rowF (allF rs) = 0 := by
  have hg := all_grp h hc
  exact rowF_of hg.so (fun x hx => (hg.ri x hx).1)
theorem allF_key {rs : List (List En)} (h : rowsF rs = 0) (hc : ∀ r ∈ rs, ∀ x ∈ r, CnOk x.2) : ∀ x ∈ allF rs, ∃ r ∈ rs, ∃ y ∈ r, x.1 = y.1 := by
  intro x hx
  obtain ⟨t, ht, hk⟩ := (all_grp h hc).ke x hx
  obtain ⟨r, hr, hy⟩ := seq_mem t ht
  exact ⟨r, hr, _, hy, hk⟩
theorem grp_tag : ∀ (l : List En) (i : Nat), (keysE l).Pairwise ltK → grpG (tagP (l, i)) = l := by
  refine snoc_ind ?_ ?_
  · intro i _; rfl
  · intro l x ih i hp
    have e : tagP (l ++ [x], i) = tagP (l, i) ++ [((x.1, i), x.2)] := by unfold tagP; simp
    unfold keysE at hp
    rw [List.map_append, List.pairwise_append] at hp
    rw [e, grpG_snoc, ih i hp.1, addG_new]
    intro h0 h1
    have := hp.2.2 _ (List.mem_map.2 ⟨_, List.getElem_mem (show l.length - 1 < l.length by omega), rfl⟩) x.1 (by simp)
    exact ltK_ne this h1
theorem tagP_pw {l : List En} {i : Nat} (h : (keysE l).Pairwise ltK) : (tagP (l, i)).Pairwise ltG := by
  unfold tagP
  rw [List.pairwise_map]
  unfold keysE at h
  rw [List.pairwise_map] at h
  exact h.imp (fun hab => .inl hab)
/-- A row, with empty ones. -/
theorem allF_alone {l : List En} (h : rowF l = 0) : rowsF [[], l, []] = 0 ∧ allF [[], l, []] = l := by
  have h0 : rowF [] = 0 := rowF_of List.Pairwise.nil (fun x hx => (by cases hx))
  have hr : rowsF [[], l, []] = 0 := rowsF_ok.2 (fun r hr => by
    simp only [List.mem_cons, List.not_mem_nil, or_false] at hr
    rcases hr with rfl | rfl | rfl
    · exact h0
    · exact h
    · exact h0)
  refine ⟨hr, ?_⟩
  have e : tagsF 0 [[], l, []] = tagP (l, 1) := by simp [tagsF, tagP]
  have e2 : seqF [[], l, []] = tagP (l, 1) := pw_unique (seqF_pw hr) (tagP_pw (rowF_ok h).1) ((srtG_perm _).trans (by rw [e]))
  unfold allF
  rw [e2]
  exact grp_tag l 1 (rowF_ok h).1
end Go.Proofs.Ytbadjigfcncfcaa

/- What is known of a key in all rows together. -/
namespace Go.Proofs.Ytbadjigfcncfcaa

theorem mrg_z (a : Ag) : mrg agZ a = a := by unfold mrg agZ; simp
/-- What is known of a key, one behind the other. -/
def knE (s : Ag) (M : List En) (k : Ks) : Ag := M.foldl (fun s x => if x.1 = k then mrg s x.2 else s) s
def hasE (M : List En) (k : Ks) : Bool := M.any fun x => decide (x.1 = k)
def knT (T : List Tg) (k : Ks) : Ag := T.foldl (fun s t => if t.1.1 = k then mrg s t.2 else s) agZ
theorem knT_snoc (T : List Tg) (t : Tg) (k : Ks) : knT (T ++ [t]) k = if t.1.1 = k then mrg (knT T k) t.2 else knT T k := by unfold knT; rw [List.foldl_append]; rfl
theorem knT_none : ∀ (T : List Tg) (k : Ks), (∀ t ∈ T, t.1.1 ≠ k) → knT T k = agZ := by
  refine snoc_ind ?_ ?_
  · intro k _; rfl
  · intro T t ih k h
    rw [knT_snoc, if_neg (h t (by simp))]
    exact ih k (fun x hx => h x (List.mem_append_left _ hx))
/-- Each entry knows what all tags of its key know; each tag's key is there. -/
theorem grp_kn : ∀ D : List Tg, D.Pairwise ltG → (∀ t ∈ D, rightB t.2 = true ∧ CnOk t.2) → (∀ x ∈ grpG D, x.2 = knT D x.1) ∧ ∀ t ∈ D, ∃ x ∈ grpG D, x.1 = t.1.1 := by
  refine snoc_ind ?_ ?_
  · intro _ _
    exact ⟨fun x hx => (by cases hx), fun t ht => (by cases ht)⟩
  · intro D t ih hp hr
    have hp0 := hp
    rw [List.pairwise_append] at hp
    obtain ⟨i1, i2⟩ := ih hp.1 (fun x hx => hr x (List.mem_append_left _ hx))
    have hg := grp_all D hp.1 (fun x hx => hr x (List.mem_append_left _ hx))
    have hnd : (keysE (grpG D)).Nodup := hg.so.imp (fun h => ltK_ne h)
    by_cases hc : ∃ h0 : 0 < (grpG D).length, ((grpG D)[(grpG D).length - 1]'(by omega)).1 = t.1.1
    · obtain ⟨h0, h1⟩ := hc
      have e := addG_same h0 h1
      rw [← grpG_snoc] at e
      constructor
      · intro x hx
        rw [e] at hx
        obtain ⟨j, hj, rfl⟩ := List.getElem_of_mem hx
        rw [List.getElem_set]
        rw [List.length_set] at hj
        by_cases ej : (grpG D).length - 1 = j
        · rw [if_pos ej, knT_snoc, if_pos rfl]
          have := i1 _ (List.getElem_mem (show (grpG D).length - 1 < (grpG D).length by omega))
          rw [h1] at this
          rw [← this]
        · rw [if_neg ej, knT_snoc, if_neg]
          · exact i1 _ (List.getElem_mem hj)
          · intro ek
            have h5 := List.pairwise_iff_getElem.1 hnd j ((grpG D).length - 1) (by simpa [keysE] using hj) (by simp [keysE]; omega) (by omega)
            simp only [keysE, List.getElem_map] at h5
            exact h5 (ek.symm.trans h1.symm)
      · intro d hd
        have hkeys : keysE (grpG (D ++ [t])) = keysE (grpG D) := by
          rw [e]
          unfold keysE
          rw [List.map_set]
          apply List.ext_getElem
          · simp
          · intro j h3 h4
            rw [List.getElem_set]; split
            · rename_i ej; subst ej; simp [h1]
            · rfl
        have hex : ∃ x ∈ grpG D, x.1 = d.1.1 := by
          rcases List.mem_append.1 hd with hd | hd
          · exact i2 d hd
          · obtain rfl : d = t := by simpa using hd
            exact ⟨_, List.getElem_mem (show (grpG D).length - 1 < (grpG D).length by omega), h1⟩
        obtain ⟨x, hx, hxk⟩ := hex
        have hm : d.1.1 ∈ keysE (grpG (D ++ [t])) := by rw [hkeys]; exact List.mem_map.2 ⟨x, hx, hxk⟩
        obtain ⟨y, hy, hyk⟩ := List.mem_map.1 hm
        exact ⟨y, hy, hyk⟩
    · have e := addG_new (t := t) (E := grpG D) (fun h0 h1 => hc ⟨h0, h1⟩)
      rw [← grpG_snoc] at e
      have hg2 := grp_all (D ++ [t]) hp0 hr
      have hno : ∀ x ∈ grpG D, x.1 ≠ t.1.1 := by
        intro x hx ek
        have h5 := hg2.so
        rw [e] at h5
        unfold keysE at h5
        rw [List.map_append, List.pairwise_append] at h5
        have := h5.2.2 x.1 (List.mem_map.2 ⟨x, hx, rfl⟩) t.1.1 (by simp)
        exact ltK_ne this ek
      constructor
      · intro x hx
        rw [e] at hx
        rcases List.mem_append.1 hx with hx | hx
        · rw [knT_snoc, if_neg (fun ek => hno x hx ek.symm)]
          exact i1 x hx
        · obtain rfl : x = (t.1.1, t.2) := by simpa using hx
          rw [knT_snoc, if_pos rfl, knT_none D t.1.1 (fun d hd ek => by
            obtain ⟨y, hy, hyk⟩ := i2 d hd
            exact hno y hy (hyk.trans ek)), mrg_z]
      · intro d hd
        rw [e]
        rcases List.mem_append.1 hd with hd | hd
        · obtain ⟨x, hx, hxk⟩ := i2 d hd
          exact ⟨x, List.mem_append_left _ hx, hxk⟩
        · obtain rfl : d = t := by simpa using hd
          exact ⟨(d.1.1, d.2), by simp, rfl⟩
theorem fold_filter (T : List Tg) (k : Ks) : ∀ s, T.foldl (fun s t => if t.1.1 = k then mrg s t.2 else s) s = (T.filter fun t => decide (t.1.1 = k)).foldl (fun s t => mrg s t.2) s := by
  induction T with
  | nil => intro s; rfl
  | cons t T ih =>
    intro s
    rw [List.foldl_cons, List.filter_cons]
    by_cases h : t.1.1 = k
    · rw [if_pos h, if_pos (by simpa using h), List.foldl_cons]; exact ih _
    · rw [if_neg h, if_neg (by simpa using h)]; exact ih _
theorem tags_key_pw : ∀ (rs : List (List En)) (i : Nat) (k : Ks), (∀ r ∈ rs, (keysE r).Pairwise ltK) → ((tagsF i rs).filter fun t => decide (t.1.1 = k)).Pairwise ltG
  | [], _, _, _ => List.Pairwise.nil
  | r :: rs, i, k, h => by
    unfold tagsF
    rw [List.filter_append, List.pairwise_append]
    refine ⟨(tagP_pw (h r (List.mem_cons_self ..))).filter _, tags_key_pw rs (i + 1) k (fun r' hr' => h r' (List.mem_cons_of_mem _ hr')), fun x hx y hy => ?_⟩
    obtain ⟨hx1, hx2⟩ := List.mem_filter.1 hx
    obtain ⟨hy1, hy2⟩ := List.mem_filter.1 hy
    simp only [decide_eq_true_eq] at hx2 hy2
    have h1 := tags_ge rs (i + 1) y hy1
    unfold tagP at hx1
    obtain ⟨z, _, rfl⟩ := List.mem_map.1 hx1
    refine .inr ⟨hx2.trans hy2.symm, ?_⟩
    show i < y.1.2
    omega
theorem knT_seq {rs : List (List En)} (h : rowsF rs = 0) (k : Ks) : knT (seqF rs) k = knT (tagsF 0 rs) k := by
  unfold knT
  rw [fold_filter, fold_filter]
  congr 1
  exact pw_unique ((seqF_pw h).filter _) (tags_key_pw rs 0 k (fun r hr => (rowF_ok (rowsF_ok.1 h r hr)).1)) ((srtG_perm _).filter _)
/-- As the rows stand. -/
def knR (s : Ag) (rs : List (List En)) (k : Ks) : Ag := rs.foldl (fun s r => knE s r k) s
theorem knT_tags : ∀ (rs : List (List En)) (i : Nat) (k : Ks) (s : Ag), (tagsF i rs).foldl (fun s t => if t.1.1 = k then mrg s t.2 else s) s = knR s rs k
  | [], _, _, _ => rfl
  | r :: rs, i, k, s => by
    unfold tagsF
    rw [List.foldl_append, knT_tags rs (i + 1) k]
    have : (tagP (r, i)).foldl (fun s t => if t.1.1 = k then mrg s t.2 else s) s = knE s r k := by
      unfold tagP knE
      rw [List.foldl_map]
    rw [this]; rfl
def hasR (rs : List (List En)) (k : Ks) : Bool := rs.any fun r => hasE r k
/-- Of each key all rows together know what each knows. -/
theorem allF_kn {rs : List (List En)} (h : rowsF rs = 0) (hc : ∀ r ∈ rs, ∀ x ∈ r, CnOk x.2) (k : Ks) : (∀ x ∈ allF rs, x.1 = k → x.2 = knR agZ rs k) ∧ (hasE (allF rs) k = hasR rs k) := by
  obtain ⟨g1, g2⟩ := grp_kn (seqF rs) (seqF_pw h) (fun t ht => by
    obtain ⟨r, hr, hx⟩ := seq_mem t ht
    exact ⟨(rowF_ok (rowsF_ok.1 h r hr)).2 _ hx, hc r hr _ hx⟩)
  constructor
  · intro x hx hk
    have := g1 x hx
    rw [hk, knT_seq h] at this
    rw [this]
    exact knT_tags rs 0 k agZ
  · rw [Bool.eq_iff_iff]
    unfold hasR hasE
    simp only [List.any_eq_true, decide_eq_true_eq]
    constructor
    · rintro ⟨x, hx, rfl⟩
      obtain ⟨r, hr, y, hy, e⟩ := allF_key h hc x hx
      exact ⟨r, hr, y, hy, e.symm⟩
    · rintro ⟨r, hr, x, hx, rfl⟩
      have hmem : ∀ (rs : List (List En)) (i : Nat), r ∈ rs → ∃ t ∈ tagsF i rs, t.1.1 = x.1 := by
        intro rs
        induction rs with
        | nil => intro i hr; cases hr
        | cons r' rs ih =>
          intro i hr
          unfold tagsF
          rcases List.mem_cons.1 hr with rfl | hr
          · exact ⟨((x.1, i), x.2), List.mem_append_left _ (List.mem_map.2 ⟨x, hx, rfl⟩), rfl⟩
          · obtain ⟨t, ht, hk⟩ := ih (i + 1) hr
            exact ⟨t, List.mem_append_right _ ht, hk⟩
      obtain ⟨t, ht, hk⟩ := hmem rs 0 hr
      obtain ⟨y, hy, hyk⟩ := g2 t ((srtG_perm _).mem_iff.2 ht)
      exact ⟨y, hy, hyk.trans hk⟩
end Go.Proofs.Ytbadjigfcncfcaa

/- Entries by their keys: what comes of a list of them hangs neither on their order nor on how they are parted. -/
namespace Go.Proofs.Ytbadjigfcncfcaa

/-- What may be known: right, and nothing where it is of no facts. -/
structure Gd (a : Ag) : Prop where
  c : CnOk a
  r : rightB a = true
  z : a.c = 0 → a = agZ
theorem Gd.zero : Gd agZ := ⟨⟨by decide, by decide⟩, by decide, fun _ => rfl⟩
theorem Gd.of {a : Ag} (hc : CnOk a) (hr : rightB a = true) (h1 : -170141183460469231731687303715884105728 ≤ a.s) (h2 : a.s < 170141183460469231731687303715884105728) : Gd a := by
  refine ⟨hc, hr, fun h => ?_⟩
  obtain ⟨c, o, s, mn, mx⟩ := a
  unfold rightB at hr
  dsimp only at h hr h1 h2
  rw [if_pos h] at hr
  simp only [Bool.and_eq_true, Bool.not_eq_true', beq_iff_eq] at hr
  obtain ⟨⟨⟨⟨k1, k2⟩, k3⟩, k4⟩, k5⟩ := hr
  unfold hi at k2
  unfold lo at k3
  have hs : s = 0 := by omega
  unfold agZ
  rw [h, k1, hs, k4, k5]
theorem mrg_cnk {a b : Ag} (ha : CnOk a) (hb : CnOk b) : CnOk (mrg a b) := by
  unfold CnOk at *
  unfold mrg
  split
  · exact hb
  · split
    · exact ha
    · dsimp only; unfold cntF; split <;> omega
theorem mrg_rightB {a b : Ag} (ha : rightB a = true) (hb : rightB b = true) (ca : CnOk a) (cb : CnOk b) : rightB (mrg a b) = true := by
  unfold mrg
  by_cases h1 : a.c = 0
  · rw [if_pos h1]; exact hb
  · rw [if_neg h1]
    by_cases h2 : b.c = 0
    · rw [if_pos h2]; exact ha
    · rw [if_neg h2]
      obtain ⟨a1, a2⟩ := ca
      obtain ⟨b1, b2⟩ := cb
      unfold rightB at ha hb ⊢
      rw [if_neg h1] at ha
      rw [if_neg h2] at hb
      simp only [Bool.and_eq_true, decide_eq_true_eq, Bool.or_eq_true, Bool.not_eq_true', beq_iff_eq] at ha hb
      have hc : 0 < cntF a.c b.c := by unfold cntF; split <;> omega
      show (if cntF a.c b.c = 0 then _ else _) = true
      rw [if_neg (by omega)]
      simp only [Bool.and_eq_true, decide_eq_true_eq, Bool.or_eq_true, Bool.not_eq_true', beq_iff_eq]
      refine ⟨by unfold minF maxF; split <;> split <;> omega, ?_⟩
      by_cases h : 18446744073709551616 ≤ a.c + b.c
      · right; unfold cntF; rw [if_neg (by omega)]
      · have hov : ovF a.c b.c = false := by unfold ovF; simp; omega
        rw [hov]
        cases ho : a.o
        · cases ho2 : b.o
          · left; rfl
          · rcases hb.2 with h2 | h2
            · rw [ho2] at h2; cases h2
            · omega
        · rcases ha.2 with h2 | h2
          · rw [ho] at h2; cases h2
          · omega
theorem Gd.mrg {a b : Ag} (ha : Gd a) (hb : Gd b) : Gd (mrg a b) := by
  refine ⟨mrg_cnk ha.c hb.c, mrg_rightB ha.r hb.r ha.c hb.c, fun h => ?_⟩
  by_cases h1 : a.c = 0
  · have e : Go.Proofs.Ytbadjigfcncfcaa.mrg a b = b := by unfold Go.Proofs.Ytbadjigfcncfcaa.mrg; rw [if_pos h1]
    rw [e] at h ⊢; exact hb.z h
  · by_cases h2 : b.c = 0
    · have e : Go.Proofs.Ytbadjigfcncfcaa.mrg a b = a := by unfold Go.Proofs.Ytbadjigfcncfcaa.mrg; rw [if_neg h1, if_pos h2]
      rw [e] at h ⊢; exact ha.z h
    · exfalso
      rw [mrg_both a b h1 h2] at h
      dsimp only at h
      have c1 := ha.c.1
      have c2 := hb.c.1
      unfold cntF at h
      split at h <;> omega
theorem gd_comm {a b : Ag} (ha : Gd a) (hb : Gd b) : mrg a b = mrg b a := by
  by_cases h1 : a.c = 0
  · by_cases h2 : b.c = 0
    · rw [ha.z h1, hb.z h2]
    · unfold mrg; rw [if_pos h1, if_neg h2, if_pos h1]
  · by_cases h2 : b.c = 0
    · unfold mrg; rw [if_neg h1, if_pos h2, if_pos h2]
    · rw [mrg_both a b h1 h2, mrg_both b a h2 h1]
      have e1 : cntF a.c b.c = cntF b.c a.c := by unfold cntF; rw [Int.add_comm]
      have e2 : (ovF a.c b.c || a.o || b.o) = (ovF b.c a.c || b.o || a.o) := by
        unfold ovF; rw [Int.add_comm]; cases a.o <;> cases b.o <;> simp
      have e3 : minF a.mn b.mn = minF b.mn a.mn := by unfold minF; split <;> split <;> omega
      have e4 : maxF a.mx b.mx = maxF b.mx a.mx := by unfold maxF; split <;> split <;> omega
      rw [e1, e2, Int.add_comm a.s, e3, e4]
theorem gd_assoc {z x y : Ag} (kz : Gd z) (kx : Gd x) (ky : Gd y) : mrg (mrg z x) y = mrg z (mrg x y) := by
  by_cases h1 : z.c = 0
  · have e1 : ∀ t, mrg z t = t := fun t => by unfold mrg; rw [if_pos h1]
    rw [e1, e1]
  · by_cases h2 : x.c = 0
    · have e1 : mrg z x = z := by unfold mrg; rw [if_neg h1, if_pos h2]
      have e2 : mrg x y = y := by unfold mrg; rw [if_pos h2]
      rw [e1, e2]
    · have hz : 0 < z.c := by have := kz.c.1; omega
      have hx : 0 < x.c := by have := kx.c.1; omega
      have p1 : 0 < cntF z.c x.c := by unfold cntF; split <;> omega
      by_cases h3 : y.c = 0
      · have e2 : mrg x y = x := by unfold mrg; rw [if_neg h2, if_pos h3]
        rw [e2, mrg_both z x h1 h2]
        unfold mrg
        dsimp only
        rw [if_neg (by omega), if_pos h3]
      · have hy : 0 < y.c := by have := ky.c.1; omega
        have p2 : 0 < cntF x.c y.c := by unfold cntF; split <;> omega
        rw [mrg_both z x h1 h2, mrg_both x y h2 h3, mrg_both _ y (by dsimp only; omega) h3, mrg_both z _ h1 (by dsimp only; omega)]
        dsimp only
        have e1 : cntF (cntF z.c x.c) y.c = cntF z.c (cntF x.c y.c) := by unfold cntF; split <;> split <;> split <;> (try split) <;> omega
        have e2 : (ovF (cntF z.c x.c) y.c || (ovF z.c x.c || z.o || x.o) || y.o) = (ovF z.c (cntF x.c y.c) || z.o || (ovF x.c y.c || x.o || y.o)) := by
          unfold ovF cntF
          cases z.o <;> cases x.o <;> cases y.o <;> simp
          rw [Bool.eq_iff_iff]
          simp
          split <;> split <;> omega
        have e3 : minF (minF z.mn x.mn) y.mn = minF z.mn (minF x.mn y.mn) := by unfold minF; (repeat' split) <;> omega
        have e4 : maxF (maxF z.mx x.mx) y.mx = maxF z.mx (maxF x.mx y.mx) := by unfold maxF; (repeat' split) <;> omega
        rw [e1, e2, Int.add_assoc, e3, e4]
theorem gd_right {a : Ag} (ha : Gd a) : mrg a agZ = a := by
  rw [gd_comm ha Gd.zero]; exact mrg_z a

/-- One more entry, at its place. -/
def ins (x : En) : List En → List En
  | [] => [x]
  | y :: L => if ltK x.1 y.1 then x :: y :: L else if x.1 = y.1 then (y.1, mrg x.2 y.2) :: L else y :: ins x L
def ap (A L : List En) : List En := A.foldr ins L
/-- What comes of entries. -/
def can (M : List En) : List En := ap M []
def GdE (L : List En) : Prop := ∀ y ∈ L, Gd y.2
theorem GdE.cons {x : En} {L : List En} : GdE (x :: L) ↔ Gd x.2 ∧ GdE L := by unfold GdE; simp
theorem GdE.nil : GdE [] := fun _ h => by cases h
theorem GdE.app {A B : List En} : GdE (A ++ B) ↔ GdE A ∧ GdE B := by
  unfold GdE
  constructor
  · intro h; exact ⟨fun y hy => h y (List.mem_append_left _ hy), fun y hy => h y (List.mem_append_right _ hy)⟩
  · intro h y hy
    rcases List.mem_append.1 hy with h1 | h1
    · exact h.1 y h1
    · exact h.2 y h1
theorem GdE.perm {A B : List En} (h : GdE A) (hp : A.Perm B) : GdE B := fun y hy => h y (hp.mem_iff.2 hy)
theorem ins_gd {x : En} (hx : Gd x.2) : ∀ {L : List En}, GdE L → GdE (ins x L)
  | [], _ => by unfold ins; exact GdE.cons.2 ⟨hx, GdE.nil⟩
  | y :: L, h => by
    have h' := GdE.cons.1 h
    unfold ins
    split
    · exact GdE.cons.2 ⟨hx, h⟩
    · split
      · exact GdE.cons.2 ⟨hx.mrg h'.1, h'.2⟩
      · exact GdE.cons.2 ⟨h'.1, ins_gd hx h'.2⟩
theorem ap_gd {L : List En} (hL : GdE L) : ∀ {A : List En}, GdE A → GdE (ap A L)
  | [], _ => hL
  | _ :: _, h => ins_gd (GdE.cons.1 h).1 (ap_gd hL (GdE.cons.1 h).2)
theorem can_gd {A : List En} (h : GdE A) : GdE (can A) := ap_gd GdE.nil h
theorem ins_lt {x y : En} {L : List En} (h : ltK x.1 y.1) : ins x (y :: L) = x :: y :: L := by rw [ins, if_pos h]
theorem ins_eq {x y : En} {L : List En} (h : x.1 = y.1) : ins x (y :: L) = (y.1, mrg x.2 y.2) :: L := by
  rw [ins, if_neg (by rw [h]; exact ltK_irrefl _), if_pos h]
theorem ins_gt {x y : En} {L : List En} (h : ltK y.1 x.1) : ins x (y :: L) = y :: ins x L := by
  rw [ins, if_neg (fun h2 => ltK_irrefl _ (ltK_trans h h2)), if_neg (fun e => ltK_ne h e.symm)]
theorem ins_comm {x y : En} (hx : Gd x.2) (hy : Gd y.2) : ∀ {L : List En}, GdE L → ins x (ins y L) = ins y (ins x L)
  | [], _ => by
    show ins x [y] = ins y [x]
    rcases ltK_tri x.1 y.1 with h | h | h
    · rw [ins_lt h, ins_gt h]; rfl
    · rw [ins_eq h, ins_eq h.symm, gd_comm hx hy, h]
    · rw [ins_gt h, ins_lt h]; rfl
  | z :: L, hL => by
    have hz := (GdE.cons.1 hL).1
    have ih := ins_comm hx hy (GdE.cons.1 hL).2
    rcases ltK_tri x.1 z.1 with h1 | h1 | h1
    · rcases ltK_tri y.1 z.1 with h2 | h2 | h2
      · rw [ins_lt h1, ins_lt h2]
        rcases ltK_tri x.1 y.1 with h | h | h
        · rw [ins_lt h, ins_gt h, ins_lt h2]
        · rw [ins_eq h, ins_eq h.symm, gd_comm hx hy, h]
        · rw [ins_gt h, ins_lt h, ins_lt h1]
      · have h3 : ltK x.1 y.1 := h2 ▸ h1
        rw [ins_lt h1, ins_eq h2, ins_gt h3, ins_eq h2, ins_lt (by exact h1)]
      · have h3 : ltK x.1 y.1 := ltK_trans h1 h2
        rw [ins_lt h1, ins_gt h2, ins_gt h3, ins_gt h2, ins_lt h1]
    · rcases ltK_tri y.1 z.1 with h2 | h2 | h2
      · have h3 : ltK y.1 x.1 := h1 ▸ h2
        rw [ins_eq h1, ins_lt h2, ins_gt h3, ins_eq h1, ins_lt (by exact h2)]
      · rw [ins_eq h1, ins_eq h2, ins_eq (by exact h1), ins_eq (by exact h2)]
        dsimp only
        rw [← gd_assoc hx hy hz, gd_comm hx hy, gd_assoc hy hx hz]
      · rw [ins_eq h1, ins_gt h2, ins_eq h1, ins_gt (by exact h2)]
    · rcases ltK_tri y.1 z.1 with h2 | h2 | h2
      · have h3 : ltK y.1 x.1 := ltK_trans h2 h1
        rw [ins_gt h1, ins_lt h2, ins_lt h2, ins_gt h3, ins_gt h1]
      · rw [ins_gt h1, ins_eq h2, ins_eq h2, ins_gt (by exact h1)]
      · rw [ins_gt h1, ins_gt h2, ins_gt h2, ins_gt h1, ih]
theorem ins_join {k : Ks} {a b : Ag} (ha : Gd a) (hb : Gd b) : ∀ {L : List En}, GdE L → ins (k, a) (ins (k, b) L) = ins (k, mrg a b) L
  | [], _ => by
    show ins (k, a) [(k, b)] = [(k, mrg a b)]
    rw [ins_eq (x := (k, a)) (y := (k, b)) rfl]
  | z :: L, hL => by
    have hz := (GdE.cons.1 hL).1
    have ih := ins_join (k := k) ha hb (GdE.cons.1 hL).2
    rcases ltK_tri k z.1 with h1 | h1 | h1
    · rw [ins_lt (x := (k, b)) h1, ins_lt (x := (k, mrg a b)) h1, ins_eq (x := (k, a)) (y := (k, b)) rfl]
    · rw [ins_eq (x := (k, b)) h1, ins_eq (x := (k, mrg a b)) h1, ins_eq (x := (k, a)) (by exact h1)]
      dsimp only
      rw [gd_assoc ha hb hz]
    · rw [ins_gt (x := (k, b)) h1, ins_gt (x := (k, mrg a b)) h1, ins_gt (x := (k, a)) h1, ih]
theorem ap_cons (x : En) (A L : List En) : ap (x :: A) L = ins x (ap A L) := rfl
theorem ap_app (A B L : List En) : ap (A ++ B) L = ap A (ap B L) := List.foldr_append
theorem can_app (A B : List En) : can (A ++ B) = ap A (can B) := ap_app A B []
theorem ap_perm {A B : List En} (hp : A.Perm B) : GdE A → ∀ {L : List En}, GdE L → ap A L = ap B L := by
  induction hp with
  | nil => intro _ L _; rfl
  | cons x p ih => intro h L hL; rw [ap_cons, ap_cons, ih (GdE.cons.1 h).2 hL]
  | swap x y l =>
    intro h L hL
    have h1 := GdE.cons.1 h
    have h2 := GdE.cons.1 h1.2
    rw [ap_cons, ap_cons, ap_cons, ap_cons]
    exact ins_comm h1.1 h2.1 (ap_gd hL h2.2)
  | trans p1 p2 i1 i2 => intro h L hL; rw [i1 h hL, i2 (h.perm p1) hL]
/-- In which order they stand is of no matter. -/
theorem can_perm {A B : List En} (hp : A.Perm B) (h : GdE A) : can A = can B := ap_perm hp h GdE.nil
theorem ap_ins {x : En} (hx : Gd x.2) {C : List En} (hC : GdE C) : ∀ {L : List En}, GdE L → ap (ins x L) C = ins x (ap L C)
  | [], _ => rfl
  | y :: L, hL => by
    have h' := GdE.cons.1 hL
    rcases ltK_tri x.1 y.1 with h | h | h
    · rw [ins_lt h]; rfl
    · rw [ins_eq h, ap_cons, ap_cons]
      have := ins_join (k := y.1) hx h'.1 (ap_gd hC h'.2)
      rw [← this]
      have e : x = (y.1, x.2) := Prod.ext h rfl
      rw [← e]
    · rw [ins_gt h, ap_cons, ap_cons, ap_ins hx hC h'.2]
      exact ins_comm h'.1 hx (ap_gd hC h'.2)
theorem ap_can {C : List En} (hC : GdE C) : ∀ {A : List En}, GdE A → ap (can A) C = ap A C
  | [], _ => rfl
  | x :: A, h => by
    have h' := GdE.cons.1 h
    show ap (ins x (can A)) C = ins x (ap A C)
    rw [ap_ins h'.1 hC (can_gd h'.2), ap_can hC h'.2]
/-- Nor whether some are put together ahead. -/
theorem can_two {A B : List En} (hA : GdE A) (hB : GdE B) : can (can A ++ can B) = can (A ++ B) := by
  rw [can_app, ap_can (can_gd (can_gd hB)) hA, can_app]
  congr 1
  have := ap_can GdE.nil hB
  exact this
/-- Other keys. -/
def fm (f : Ks → Option Ks) (M : List En) : List En := M.filterMap fun x => (f x.1).map fun k => (k, x.2)
theorem fm_cons (f : Ks → Option Ks) (x : En) (M : List En) : fm f (x :: M) = match f x.1 with | none => fm f M | some k => (k, x.2) :: fm f M := by
  unfold fm
  rw [List.filterMap_cons]
  cases f x.1 <;> rfl
theorem fm_app (f : Ks → Option Ks) (A B : List En) : fm f (A ++ B) = fm f A ++ fm f B := List.filterMap_append
theorem fm_gd (f : Ks → Option Ks) : ∀ {M : List En}, GdE M → GdE (fm f M)
  | [], _ => GdE.nil
  | x :: M, h => by
    have h' := GdE.cons.1 h
    rw [fm_cons]
    cases f x.1 with
    | none => exact fm_gd f h'.2
    | some k => exact GdE.cons.2 ⟨h'.1, fm_gd f h'.2⟩
theorem fm_perm (f : Ks → Option Ks) {A B : List En} (h : A.Perm B) : (fm f A).Perm (fm f B) := h.filterMap _
theorem ap_fm_ins (f : Ks → Option Ks) {x : En} (hx : Gd x.2) {C : List En} (hC : GdE C) : ∀ {L : List En}, GdE L → ap (fm f (ins x L)) C = ap (fm f (x :: L)) C
  | [], _ => rfl
  | y :: L, hL => by
    have h' := GdE.cons.1 hL
    rcases ltK_tri x.1 y.1 with h | h | h
    · rw [ins_lt h]
    · rw [ins_eq h, fm_cons, fm_cons, fm_cons, h]
      dsimp only
      cases hf : f y.1 with
      | none => rfl
      | some k =>
        exact (ins_join hx h'.1 (ap_gd hC (fm_gd f h'.2))).symm
    · have ih := ap_fm_ins f hx hC h'.2
      rw [ins_gt h, fm_cons]
      rw [fm_cons] at ih
      rw [fm_cons f x, fm_cons f y]
      cases hy : f y.1 with
      | none => exact ih
      | some k =>
        show ins (k, y.2) (ap (fm f (ins x L)) C) = _
        rw [ih]
        cases hf : f x.1 with
        | none => rfl
        | some m => exact ins_comm (x := (k, y.2)) (y := (m, x.2)) h'.1 hx (ap_gd hC (fm_gd f h'.2))
theorem can_fm (f : Ks → Option Ks) : ∀ {A : List En}, GdE A → ∀ {C : List En}, GdE C → ap (fm f (can A)) C = ap (fm f A) C
  | [], _, _, _ => rfl
  | x :: A, h, C, hC => by
    have h' := GdE.cons.1 h
    show ap (fm f (ins x (can A))) C = _
    rw [ap_fm_ins f h'.1 hC (can_gd h'.2), fm_cons, fm_cons]
    cases f x.1 with
    | none => exact can_fm f h'.2 hC
    | some k =>
      show ins _ (ap _ C) = ins _ (ap _ C)
      rw [can_fm f h'.2 hC]
/-- In order, each key once. -/
def SrtE (L : List En) : Prop := (keysE L).Pairwise ltK
theorem SrtE.cons {x : En} {L : List En} : SrtE (x :: L) ↔ (∀ y ∈ L, ltK x.1 y.1) ∧ SrtE L := by
  unfold SrtE keysE
  rw [List.map_cons, List.pairwise_cons]
  simp
theorem SrtE.nil : SrtE [] := List.Pairwise.nil
theorem ins_mem {x y : En} : ∀ {L : List En}, y ∈ ins x L → y.1 = x.1 ∨ ∃ z ∈ L, y.1 = z.1
  | [], h => by unfold ins at h; simp at h; exact .inl (by rw [h])
  | z :: L, h => by
    rcases ltK_tri x.1 z.1 with h1 | h1 | h1
    · rw [ins_lt h1] at h
      rcases List.mem_cons.1 h with rfl | h
      · exact .inl rfl
      · exact .inr ⟨y, h, rfl⟩
    · rw [ins_eq h1] at h
      rcases List.mem_cons.1 h with rfl | h
      · exact .inl h1.symm
      · exact .inr ⟨y, List.mem_cons_of_mem _ h, rfl⟩
    · rw [ins_gt h1] at h
      rcases List.mem_cons.1 h with rfl | h
      · exact .inr ⟨y, List.mem_cons_self .., rfl⟩
      · rcases ins_mem h with h | ⟨u, hu, e⟩
        · exact .inl h
        · exact .inr ⟨u, List.mem_cons_of_mem _ hu, e⟩
theorem ins_srt {x : En} : ∀ {L : List En}, SrtE L → SrtE (ins x L)
  | [], _ => SrtE.cons.2 ⟨fun _ h => (by cases h), SrtE.nil⟩
  | z :: L, h => by
    have h' := SrtE.cons.1 h
    rcases ltK_tri x.1 z.1 with h1 | h1 | h1
    · rw [ins_lt h1]
      refine SrtE.cons.2 ⟨fun y hy => ?_, h⟩
      rcases List.mem_cons.1 hy with rfl | hy
      · exact h1
      · exact ltK_trans h1 (h'.1 y hy)
    · rw [ins_eq h1]; exact SrtE.cons.2 ⟨h'.1, h'.2⟩
    · rw [ins_gt h1]
      refine SrtE.cons.2 ⟨fun y hy => ?_, ins_srt h'.2⟩
      rcases ins_mem hy with e | ⟨u, hu, e⟩
      · rw [e]; exact h1
      · rw [e]; exact h'.1 u hu
theorem ap_srt {L : List En} (h : SrtE L) : ∀ (A : List En), SrtE (ap A L)
  | [] => h
  | _ :: A => ins_srt (ap_srt h A)
theorem can_srt (A : List En) : SrtE (can A) := ap_srt SrtE.nil A
theorem can_mem {y : En} : ∀ {A : List En}, y ∈ can A → ∃ z ∈ A, y.1 = z.1
  | [], h => by cases h
  | x :: A, h => by
    rcases ins_mem (show y ∈ ins x (can A) from h) with e | ⟨u, hu, e⟩
    · exact ⟨x, List.mem_cons_self .., e⟩
    · obtain ⟨z, hz, e2⟩ := can_mem hu
      exact ⟨z, List.mem_cons_of_mem _ hz, e.trans e2⟩
theorem ins_len (x : En) : ∀ L : List En, (ins x L).length ≤ L.length + 1
  | [] => by simp [ins]
  | z :: L => by
    unfold ins
    split
    · simp
    · split
      · simp
      · have := ins_len x L; simp; omega
theorem can_len : ∀ A : List En, (can A).length ≤ A.length
  | [] => by simp [can, ap]
  | x :: A => by
    have h1 := ins_len x (can A)
    have h2 := can_len A
    show (ins x (can A)).length ≤ _
    simp; omega
/-- What is in order is as it was. -/
theorem can_id : ∀ {L : List En}, SrtE L → can L = L
  | [], _ => rfl
  | x :: L, h => by
    have h' := SrtE.cons.1 h
    show ins x (can L) = x :: L
    rw [can_id h'.2]
    match L, h'.1 with
    | [], _ => rfl
    | y :: L, h2 => exact ins_lt (h2 y (List.mem_cons_self ..))
theorem ins_end {x : En} : ∀ {L : List En}, (∀ y ∈ L, ltK y.1 x.1) → ins x L = L ++ [x]
  | [], _ => rfl
  | y :: L, h => by
    rw [ins_gt (h y (List.mem_cons_self ..)), ins_end (fun z hz => h z (List.mem_cons_of_mem _ hz))]; rfl
theorem ins_last {x l : En} (e : x.1 = l.1) : ∀ {L : List En}, (∀ y ∈ L, ltK y.1 l.1) → ins x (L ++ [l]) = L ++ [(l.1, mrg x.2 l.2)]
  | [], _ => by show ins x [l] = _; rw [ins_eq e]; rfl
  | y :: L, h => by
    show ins x (y :: (L ++ [l])) = _
    rw [ins_gt (e ▸ h y (List.mem_cons_self ..)), ins_last e (fun z hz => h z (List.mem_cons_of_mem _ hz))]; rfl
/-- A tag without its row. -/
def unt (t : Tg) : En := (t.1.1, t.2)
theorem snoc_cases {α : Type} (l : List α) : l = [] ∨ ∃ m x, l = m ++ [x] := by
  rcases Nat.eq_zero_or_pos l.length with h | h
  · exact .inl (List.length_eq_zero_iff.1 h)
  · have hne : l ≠ [] := fun e => by rw [e] at h; simp at h
    exact .inr ⟨l.dropLast, l.getLast hne, (List.dropLast_concat_getLast hne).symm⟩
theorem SrtE.snoc {L : List En} {x : En} (h : SrtE (L ++ [x])) : ∀ y ∈ L, ltK y.1 x.1 := by
  unfold SrtE keysE at h
  rw [List.map_append, List.pairwise_append] at h
  intro y hy
  exact h.2.2 y.1 (List.mem_map.2 ⟨y, hy, rfl⟩) x.1 (by simp)
theorem addG_ins {E : List En} {t : Tg} (hs : SrtE E) (hn : (∀ l, E.getLast? = some l → l.1 ≠ t.1.1) → ∀ y ∈ E, ltK y.1 t.1.1) (hE : GdE E) (ht : Gd t.2) : addG E t = ins (unt t) E := by
  rcases snoc_cases E with rfl | ⟨D, l, rfl⟩
  · rfl
  · unfold addG
    rw [List.getLast?_concat]
    dsimp only
    by_cases h : l.1 = t.1.1
    · rw [if_pos h, List.dropLast_concat, ins_last (x := unt t) (by exact h.symm) hs.snoc]
      rw [gd_comm (hE l (by simp)) ht]; rfl
    · rw [if_neg h, ins_end (x := unt t)]
      · rfl
      · exact hn (fun l' e => by rw [List.getLast?_concat] at e; cases e; exact h)
theorem grp_can : ∀ D : List Tg, D.Pairwise ltG → (∀ t ∈ D, Gd t.2) → grpG D = can (D.map unt) := by
  refine snoc_ind ?_ ?_
  · intro _ _; rfl
  · intro D t ih hp hg
    have hp0 := hp
    rw [List.pairwise_append] at hp
    have hgD : ∀ x ∈ D, Gd x.2 := fun x hx => hg x (List.mem_append_left _ hx)
    have e1 := ih hp.1 hgD
    have hgE : GdE (D.map unt) := fun y hy => by
      obtain ⟨x, hx, rfl⟩ := List.mem_map.1 hy
      exact hgD x hx
    have ht := hg t (by simp)
    rw [grpG_snoc, e1, List.map_append]
    have hperm : (D.map unt ++ [t].map unt).Perm (unt t :: D.map unt) := by
      have := List.perm_append_comm (l₁ := D.map unt) (l₂ := [unt t])
      exact this
    rw [can_perm hperm (GdE.app.2 ⟨hgE, fun y hy => by simp at hy; rw [hy]; exact ht⟩)]
    show addG _ t = ins (unt t) (can (D.map unt))
    refine addG_ins (can_srt _) (fun hl y hy => ?_) (can_gd hgE) ht
    obtain ⟨z, hz, e⟩ := can_mem hy
    obtain ⟨d, hd, rfl⟩ := List.mem_map.1 hz
    have hlt := hp.2.2 d hd t (by simp)
    rw [e]
    rcases hlt with h | ⟨h, _⟩
    · exact h
    · exfalso
      have hne : can (D.map unt) ≠ [] := fun e0 => by rw [e0] at hy; cases hy
      have hlast := List.getLast?_eq_some_getLast hne
      have hmem := List.getLast_mem hne
      obtain ⟨u, hu, eu⟩ := can_mem hmem
      obtain ⟨d2, hd2, rfl⟩ := List.mem_map.1 hu
      have h2 := hp.2.2 d2 hd2 t (by simp)
      have hle : y.1 = ((can (D.map unt)).getLast hne).1 ∨ ltK y.1 ((can (D.map unt)).getLast hne).1 := by
        rcases snoc_cases (can (D.map unt)) with e0 | ⟨m, x, e0⟩
        · exact absurd e0 hne
        · have hs := can_srt (D.map unt)
          have hgl : (can (D.map unt)).getLast hne = x := by simp [e0]
          rw [hgl]
          rw [e0] at hs hy
          rcases List.mem_append.1 hy with h3 | h3
          · exact .inr (hs.snoc y h3)
          · simp at h3; exact .inl (by rw [h3])
      have hk : y.1 = t.1.1 := e.trans h
      rcases hle with h3 | h3
      · exact hl _ hlast (h3.symm.trans hk)
      · rw [hk, eu] at h3
        rcases h2 with h4 | ⟨h4, _⟩
        · exact ltK_irrefl _ (ltK_trans h3 h4)
        · exact ltK_ne h3 h4.symm
theorem tags_unt : ∀ (rs : List (List En)) (i : Nat), (tagsF i rs).map unt = rs.flatten
  | [], _ => rfl
  | r :: rs, i => by
    unfold tagsF
    rw [List.map_append, tags_unt rs (i + 1), List.flatten_cons]
    congr 1
    unfold tagP
    rw [List.map_map]
    exact List.map_id r
def GdR (rs : List (List En)) : Prop := ∀ r ∈ rs, GdE r
theorem GdR.flat {rs : List (List En)} (h : GdR rs) : GdE rs.flatten := fun y hy => by
  obtain ⟨r, hr, hy⟩ := List.mem_flatten.1 hy
  exact h r hr y hy
/-- All rows together, by their entries. -/
theorem allF_can {rs : List (List En)} (h : rowsF rs = 0) (hg : GdR rs) : allF rs = can rs.flatten := by
  have hp : (seqF rs).Perm (tagsF 0 rs) := srtG_perm _
  have hu : ((seqF rs).map unt).Perm rs.flatten := by
    have := hp.map unt
    rw [tags_unt] at this
    exact this
  have hgs : ∀ t ∈ seqF rs, Gd t.2 := fun t ht => by
    have : unt t ∈ rs.flatten := hu.mem_iff.1 (List.mem_map.2 ⟨t, ht, rfl⟩)
    exact hg.flat _ this
  unfold allF
  rw [grp_can _ (seqF_pw h) hgs]
  exact can_perm hu (hg.flat.perm hu.symm)
theorem allF_perm {rs rs' : List (List En)} (hp : rs.Perm rs') (h : rowsF rs = 0) (hg : GdR rs) : rowsF rs' = 0 ∧ allF rs' = allF rs := by
  have h' : rowsF rs' = 0 := rowsF_ok.2 fun r hr => rowsF_ok.1 h r (hp.mem_iff.2 hr)
  refine ⟨h', ?_⟩
  rw [allF_can h' (fun r hr => hg r (hp.mem_iff.2 hr)), allF_can h hg]
  exact can_perm hp.flatten.symm (GdR.flat (fun r hr => hg r (hp.mem_iff.2 hr)))
theorem row_two {a b : List En} (ha : rowF a = 0) (hb : rowF b = 0) : rowsF [a, b] = 0 := rowsF_ok.2 fun r hr => by
  simp only [List.mem_cons, List.not_mem_nil, or_false] at hr
  rcases hr with rfl | rfl
  · exact ha
  · exact hb
theorem allF_parts {rs : List (List En)} (k : Nat) (h : rowsF rs = 0) (hg : GdR rs) (hc : ∀ r ∈ rs, ∀ x ∈ r, CnOk x.2) : rowsF (rs.take k) = 0 ∧ rowsF (rs.drop k) = 0 ∧ rowsF [allF (rs.take k), allF (rs.drop k)] = 0 ∧ allF [allF (rs.take k), allF (rs.drop k)] = allF rs := by
  have h1 : rowsF (rs.take k) = 0 := rowsF_ok.2 fun r hr => rowsF_ok.1 h r (List.mem_of_mem_take hr)
  have h2 : rowsF (rs.drop k) = 0 := rowsF_ok.2 fun r hr => rowsF_ok.1 h r (List.mem_of_mem_drop hr)
  have r1 := allF_row h1 (fun r hr => hc r (List.mem_of_mem_take hr))
  have r2 := allF_row h2 (fun r hr => hc r (List.mem_of_mem_drop hr))
  have g1 : GdR (rs.take k) := fun r hr => hg r (List.mem_of_mem_take hr)
  have g2 : GdR (rs.drop k) := fun r hr => hg r (List.mem_of_mem_drop hr)
  refine ⟨h1, h2, row_two r1 r2, ?_⟩
  have g3 : GdR [allF (rs.take k), allF (rs.drop k)] := fun r hr => by
    simp only [List.mem_cons, List.not_mem_nil, or_false] at hr
    rcases hr with rfl | rfl
    · rw [allF_can h1 g1]; exact can_gd g1.flat
    · rw [allF_can h2 g2]; exact can_gd g2.flat
  rw [allF_can (row_two r1 r2) g3, allF_can h1 g1, allF_can h2 g2, allF_can h hg]
  simp only [List.flatten_cons, List.flatten_nil, List.append_nil]
  rw [can_two g1.flat g2.flat, ← List.flatten_append, List.take_append_drop]
end Go.Proofs.Ytbadjigfcncfcaa

/- The contracts of grain's small functions. -/
namespace Go.Proofs.Ytbadjigfcncfcaa
open Go.RowKit

/-- A time. -/
def isT (t : Int) : Bool := decide (0 ≤ t) && decide (t ≤ 1099511627776)
/-- A size. -/
def isS (t : Int) : Bool := decide (1 ≤ t) && decide (t ≤ 1099511627776)
theorem isT_iff (t : Int) : isT t = true ↔ 0 ≤ t ∧ t ≤ 1099511627776 := by simp [isT]
theorem isS_iff (t : Int) : isS t = true ↔ 1 ≤ t ∧ t ≤ 1099511627776 := by simp [isS]

set_option maxHeartbeats 400000 in
theorem isTime_any (t : Int) (w : World) : Calls Try.prog 57 #[.int .i64 t] w fun e w' => e = .returned (.bool (isT t)) ∧ w' = w := by
  unfold isT
  generalize h1 : decide (0 ≤ t) = p
  generalize h2 : decide (t ≤ 1099511627776) = q
  cases p <;> cases q <;>
  · go_enter Try.func57, Try.ntmps57
    go_wp2_with fail
    go_ret
    exact ⟨rfl, rfl⟩
set_option maxHeartbeats 400000 in
theorem isSize_any (t : Int) (w : World) : Calls Try.prog 56 #[.int .i64 t] w fun e w' => e = .returned (.bool (isS t)) ∧ w' = w := by
  unfold isS
  generalize h1 : decide (1 ≤ t) = p
  generalize h2 : decide (t ≤ 1099511627776) = q
  cases p <;> cases q <;>
  · go_enter Try.func56, Try.ntmps56
    go_wp2_with fail
    go_ret
    exact ⟨rfl, rfl⟩
theorem emod_leI (t s : Int) (t1 : 0 ≤ t) (s1 : 0 < s) : t % s ≤ t := by
  have h := Int.emod_add_mul_ediv t s
  have : 0 ≤ s * (t / s) := Int.mul_nonneg (by omega) (Int.ediv_nonneg t1 (by omega))
  omega
theorem mod_bd (t s : Int) (t1 : 0 ≤ t) (s1 : 1 ≤ s) : 0 ≤ t % s ∧ t % s ≤ t ∧ t % s < s :=
  ⟨Int.emod_nonneg _ (by omega), emod_leI t s t1 (by omega), Int.emod_lt_of_pos _ (by omega)⟩
set_option maxHeartbeats 400000 in
theorem begin_any (t s : Int) (ht : isT t = true) (hs : isS s = true) (w : World) : Calls Try.prog 59 #[.int .i64 t, .int .i64 s] w fun e w' => e = .returned (.int .i64 (t - t % s)) ∧ w' = w := by
  obtain ⟨t1, t2⟩ := (isT_iff t).1 ht
  obtain ⟨s1, s2⟩ := (isS_iff s).1 hs
  have hs0 : s ≠ 0 := by omega
  have hb := mod_bd t s t1 s1
  have et : Int.tmod t s = t % s := Int.tmod_eq_emod_of_nonneg t1
  clear ht hs
  go_enter Try.func59, Try.ntmps59
  go_wp2_with fail
  go_ret
  exact ⟨rfl, rfl⟩
end Go.Proofs.Ytbadjigfcncfcaa

/- The contracts of grain's end, follows and Floor, and of the reference's Time and Floor. -/
namespace Go.Proofs.Ytbadjigfcncfcaa
open Go.RowKit

/-- Where a bucket ends. -/
def endF (t s : Int) : Int := t - t % s + s
set_option maxHeartbeats 400000 in
theorem end_any (t s : Int) (ht : isT t = true) (hs : isS s = true) (w : World) : Calls Try.prog 38 #[.int .i64 t, .int .i64 s] w fun e w' => e = .returned (.int .i64 (endF t s)) ∧ w' = w := by
  obtain ⟨t1, t2⟩ := (isT_iff t).1 ht
  obtain ⟨s1, s2⟩ := (isS_iff s).1 hs
  have hb := mod_bd t s t1 s1
  unfold endF
  go_enter Try.func38, Try.ntmps38
  go_wp2_with fail
  refine (begin_any t s ht hs _).mono ?_
  rintro e w' ⟨rfl, rfl⟩
  clear ht hs
  go_wp2_with fail
  go_ret
  exact ⟨rfl, rfl⟩

/-- A step may stand behind another one. -/
def folB (s0 a0 s1 a1 : Int) : Bool := decide (s0 < s1) && ((s1 % s0 == 0) && decide (a0 ≤ a1))
set_option maxHeartbeats 400000 in
theorem follows_any (s0 a0 s1 a1 : Int) (h0 : isS s0 = true) (h1 : isS s1 = true) (w : World) : Calls Try.prog 58 #[.agg #[.int .i64 s0, .int .i64 a0], .agg #[.int .i64 s1, .int .i64 a1]] w fun e w' => e = .returned (.bool (folB s0 a0 s1 a1)) ∧ Below w.heap.size w w' := by
  obtain ⟨p1, p2⟩ := (isS_iff s0).1 h0
  obtain ⟨q1, q2⟩ := (isS_iff s1).1 h1
  have hs0 : s0 ≠ 0 := by omega
  have hb := mod_bd s1 s0 (by omega) (by omega)
  have et : Int.tmod s1 s0 = s1 % s0 := Int.tmod_eq_emod_of_nonneg (by omega)
  clear h0 h1
  have HB : Hid (∀ o1 o2, Below w.heap.size w ((w.alloc o1).alloc o2)) := fun o1 o2 => ((Below.refl _ _).alloc (by simp) _).alloc (by simp) _
  unfold folB
  generalize h1 : decide (s0 < s1) = p
  generalize h2 : (s1 % s0 == 0) = q
  generalize h3 : decide (a0 ≤ a1) = r
  cases p <;> cases q <;> cases r <;>
  · go_enter Try.func58, Try.ntmps58
    go_wp2_with fail
    go_ret
    exact ⟨rfl, HB.out _ _⟩

/-- What Floor tells. -/
def floorV (t s : Int) : Value := .tuple #[.int .i64 (if isT t && isS s then t - t % s else 0), .int .i64 (if isT t && isS s then 0 else 1)]
set_option maxHeartbeats 400000 in
theorem floor_any (t s : Int) (w : World) : Calls Try.prog 33 #[.int .i64 t, .int .i64 s] w fun e w' => e = .returned (floorV t s) ∧ w' = w := by
  unfold floorV
  cases ht : isT t
  · go_enter Try.func33, Try.ntmps33
    go_wp2_with fail
    refine (isTime_any t _).mono ?_
    rw [ht]
    rintro e w' ⟨rfl, rfl⟩
    go_wp2_with fail
    go_ret2
    exact ⟨rfl, rfl⟩
  · cases hs : isS s
    · go_enter Try.func33, Try.ntmps33
      go_wp2_with fail
      refine (isTime_any t _).mono ?_
      rw [ht]
      rintro e w' ⟨rfl, rfl⟩
      go_wp2_with fail
      refine (isSize_any s _).mono ?_
      rw [hs]
      rintro e w' ⟨rfl, rfl⟩
      go_wp2_with fail
      go_ret2
      exact ⟨rfl, rfl⟩
    · go_enter Try.func33, Try.ntmps33
      go_wp2_with fail
      refine (isTime_any t _).mono ?_
      rw [ht]
      rintro e w' ⟨rfl, rfl⟩
      go_wp2_with fail
      refine (isSize_any s _).mono ?_
      rw [hs]
      rintro e w' ⟨rfl, rfl⟩
      go_wp2_with fail
      refine (begin_any t s ht hs _).mono ?_
      rintro e w' ⟨rfl, rfl⟩
      go_wp2_with fail
      go_ret2
      exact ⟨rfl, rfl⟩
end Go.Proofs.Ytbadjigfcncfcaa

/- Rules: what a walk is told of them, and the contract of grain.Right. -/
namespace Go.Proofs.Ytbadjigfcncfcaa
open Go.RowKit

/-- Rules: a slice of steps (its address, length, capacity), each step's size and age, and how long something is kept. -/
structure Rl where
  a : Option Addr
  len : Nat
  cap : Nat
  sz : Nat → Int
  ag : Nat → Int
  kp : Int

/-- The steps lie in the memory of a world, below N. -/
def Lies (R : Rl) (N : Nat) (w : World) : Prop :=
  R.len ≤ maxLen ∧ N ≤ w.heap.size ∧ (R.len = 0 ∨ ∃ b off, R.a = some ⟨b, off, none⟩ ∧ b < N ∧ ∀ i, i < R.len → w.cell? ⟨b, off + i * 2, none⟩ = some (.int .i64 (R.sz i)) ∧ w.cell? ⟨b, off + i * 2 + 1, none⟩ = some (.int .i64 (R.ag i)))
theorem Lies.below {R : Rl} {N M : Nat} {w w' : World} (h : Lies R N w) (hb : Below M w w') (hN : N ≤ M) : Lies R N w' := by
  obtain ⟨h0, h1, h2⟩ := h
  have := hb.size
  refine ⟨h0, by omega, ?_⟩
  rcases h2 with h | ⟨b, off, ha, hbN, hc⟩
  · exact .inl h
  · refine .inr ⟨b, off, ha, hbN, fun i hi => ?_⟩
    obtain ⟨c0, c1⟩ := hc i hi
    exact ⟨(hb.cell (p := ⟨b, off + i * 2, none⟩) (by show b < M; omega)).trans c0, (hb.cell (p := ⟨b, off + i * 2 + 1, none⟩) (by show b < M; omega)).trans c1⟩

/-- A box of rules. -/
def RBox (R : Rl) (b : Nat) (w : World) : Prop := b < w.heap.size ∧ w.cell? ⟨b, 0, none⟩ = some (.slice R.a R.len R.cap) ∧ w.cell? ⟨b, 1, none⟩ = some (.int .i64 R.kp)
theorem RBox.below {R : Rl} {b : Nat} {w1 w2 : World} (h : RBox R b w1) (hb : Below w1.heap.size w1 w2) : RBox R b w2 := by
  obtain ⟨h0, h1, h2⟩ := h
  have := hb.size
  exact ⟨by omega, (hb.cell (p := ⟨b, 0, none⟩) h0).trans h1, (hb.cell (p := ⟨b, 1, none⟩) h0).trans h2⟩
theorem RBox.new (R : Rl) (w : World) (t : TypeId) : RBox R w.heap.size (w.alloc (.cells #[.slice R.a R.len R.cap, .int .i64 R.kp] t)) := by
  refine ⟨by simp, ?_, ?_⟩ <;> simp

/-- A step is right, behind those ahead. -/
def stepOk (R : Rl) (i : Nat) : Prop := isS (R.sz i) = true ∧ isT (R.ag i) = true ∧ (0 < i → folB (R.sz (i - 1)) (R.ag (i - 1)) (R.sz i) (R.ag i) = true)
instance (R : Rl) (i : Nat) : Decidable (stepOk R i) := by unfold stepOk; infer_instance
/-- Rules are right. -/
def RightP (R : Rl) : Prop := 1 ≤ R.len ∧ R.len ≤ 4 ∧ R.ag 0 = 0 ∧ (∀ i, i < R.len → stepOk R i) ∧ R.ag (R.len - 1) ≤ R.kp ∧ R.kp ≤ 2199023255552
instance (R : Rl) : Decidable (RightP R) := by unfold RightP; infer_instance

theorem no_step (R : Rl) (k : Nat) (hk : k < R.len) (h : ¬ stepOk R k) : decide (RightP R) = false := by
  apply decide_eq_false; rintro ⟨_, _, _, h4, _⟩; exact h (h4 k hk)

set_option maxRecDepth 100000 in
set_option maxHeartbeats 1000000 in
theorem right_many (R : Rl) (w : World) (h : R.len < 1 ∨ 4 < R.len) :
    Calls Try.prog 31 #[.agg #[.slice R.a R.len R.cap, .int .i64 R.kp]] w fun e w' => e = .returned (.bool (decide (RightP R))) ∧ Below w.heap.size w w' := by
  have hn : decide (RightP R) = false := by
    apply decide_eq_false; rintro ⟨h1, h2, _⟩; omega
  rw [hn]
  have h1 : decide ((R.len : Int) < 1) = decide (R.len < 1) := by by_cases h : R.len < 1 <;> simp [h] <;> omega
  have h2 : decide (4 < (R.len : Int)) = decide (4 < R.len) := by by_cases h : 4 < R.len <;> simp [h] <;> omega
  by_cases hd : R.len < 1
  · have e1 : decide ((R.len : Int) < 1) = true := by rw [h1]; simpa using hd
    clear h1 h2 hd h hn
    go_enter Try.func31, Try.ntmps31
    go_wp2_with fail
    go_ret
    exact ⟨rfl, (Below.refl _ _).alloc (by simp) _⟩
  · have e1 : decide ((R.len : Int) < 1) = false := by rw [h1]; simpa using hd
    have e2 : decide (4 < (R.len : Int)) = true := by rw [h2]; simp; omega
    clear h1 h2 hd h hn
    go_enter Try.func31, Try.ntmps31
    go_wp2_with fail
    go_ret
    exact ⟨rfl, (Below.refl _ _).alloc (by simp) _⟩

theorem held_below {w : World} {b off m k : Nat} {A B C D E F : Value} {w1 w2 : World} (hbN : b < w.heap.size) (hb : Below w1.heap.size w1 w2)
    (h : w1.cell? ⟨w.heap.size, 0, none⟩ = some A ∧ w1.cell? ⟨w.heap.size, 1, none⟩ = some B ∧ w.heap.size < w1.heap.size ∧ w1.cell? ⟨b, off + m * 2, none⟩ = some C ∧ w1.cell? ⟨b, off + m * 2 + 1, none⟩ = some D ∧ w1.cell? ⟨b, off + k * 2, none⟩ = some E ∧ w1.cell? ⟨b, off + k * 2 + 1, none⟩ = some F ∧ Below w.heap.size w w1) :
    w2.cell? ⟨w.heap.size, 0, none⟩ = some A ∧ w2.cell? ⟨w.heap.size, 1, none⟩ = some B ∧ w.heap.size < w2.heap.size ∧ w2.cell? ⟨b, off + m * 2, none⟩ = some C ∧ w2.cell? ⟨b, off + m * 2 + 1, none⟩ = some D ∧ w2.cell? ⟨b, off + k * 2, none⟩ = some E ∧ w2.cell? ⟨b, off + k * 2 + 1, none⟩ = some F ∧ Below w.heap.size w w2 := by
  obtain ⟨h1, h2, h3, h4, h5, h6, h7, h8⟩ := h
  have := hb.size
  exact ⟨(hb.cell (p := ⟨_, 0, none⟩) h3).trans h1, (hb.cell (p := ⟨_, 1, none⟩) h3).trans h2, by omega, (hb.cell (p := ⟨b, _, none⟩) (by show b < _; omega)).trans h4, (hb.cell (p := ⟨b, _, none⟩) (by show b < _; omega)).trans h5, (hb.cell (p := ⟨b, _, none⟩) (by show b < _; omega)).trans h6, (hb.cell (p := ⟨b, _, none⟩) (by show b < _; omega)).trans h7, h8.trans (hb.mono (by omega))⟩

set_option maxRecDepth 100000 in
set_option maxHeartbeats 1000000 in
theorem right_someG (R : Rl) (w : World) (h : 1 ≤ R.len) (h4 : R.len ≤ 4) (hL : Lies R w.heap.size w) :
    Calls Try.prog 31 #[.agg #[.slice R.a R.len R.cap, .int .i64 R.kp]] w fun e w' => e = .returned (.bool (decide (RightP R))) ∧ Below w.heap.size w w' := by
  obtain ⟨hm, _, hc⟩ := hL
  rcases hc with hc | ⟨b, off, ha, hbN, hc⟩
  · omega
  have e1 : decide ((R.len : Int) < 1) = false := by simp; omega
  have e2 : decide (4 < (R.len : Int)) = false := by simp; omega
  have c00 := (hc 0 (by omega)).1
  have c01 := (hc 0 (by omega)).2
  simp only [Nat.zero_mul, Nat.add_zero] at c00 c01
  rw [ha]
  by_cases h0 : R.ag 0 = 0
  · have e3 : (R.ag 0 == 0) = true := by simpa using h0
    have e4 : (R.ag 0 != 0) = false := by simpa using h0
    go_enter Try.func31, Try.ntmps31
    go_wp2_with fail
    go_loopw [23] (fun i wr => ∃ k : Nat, k ≤ R.len ∧ i = .int .i64 k ∧ (∀ j, j < k → stepOk R j) ∧ RBox R w.heap.size wr ∧ Below w.heap.size w wr) (fun i _ => R.len - (intOf i).toNat)
    case atStart =>
      refine ⟨0, by omega, rfl, fun j hj => by omega, ?_, (Below.refl _ _).alloc (by simp) _⟩
      rw [← ha]
      exact RBox.new R w _
    case round =>
      obtain ⟨k, hk, rfl, hok, hbx, hbel⟩ := hrel
      by_cases hlt : k < R.len
      · have q0 : wr.cell? ⟨b, off + k * 2, none⟩ = some (.int .i64 (R.sz k)) := (hbel.cell (p := ⟨b, off + k * 2, none⟩) hbN).trans (hc k hlt).1
        have q1 : wr.cell? ⟨b, off + k * 2 + 1, none⟩ = some (.int .i64 (R.ag k)) := (hbel.cell (p := ⟨b, off + k * 2 + 1, none⟩) hbN).trans (hc k hlt).2
        have hki : ((k : Int) < (R.len : Int)) := by omega
        obtain ⟨hb0, hb1, hb2⟩ := hbx
        rw [ha] at hb1
        have HB : Hid (Below w.heap.size w wr) := hbel
        have HC : Hid _ := hc
        have HO : Hid (∀ j, j < k → stepOk R j) := hok
        have H0 : Hid _ := h0
        clear hbel hc hok c00 c01 e1 e2 e3 e4 h0
        cases hS : isS (R.sz k)
        · have HN : Hid _ := no_step R k hlt (fun hh => by rw [hh.1] at hS; cases hS)
          go_wp2_with fail
          refine (isSize_any (R.sz k) _).mono ?_
          rw [hS]
          rintro e w' ⟨rfl, rfl⟩
          clear hS
          go_wp2_with fail
          go_ret
          exact ⟨by rw [HN.out]; rfl, HB.out⟩
        · cases hT : isT (R.ag k)
          · have HN : Hid _ := no_step R k hlt (fun hh => by rw [hh.2.1] at hT; cases hT)
            go_wp2_with fail
            refine (isSize_any (R.sz k) _).mono ?_
            rw [hS]
            rintro e w' ⟨rfl, rfl⟩
            clear hS
            go_wp2_with fail
            refine (isTime_any (R.ag k) _).mono ?_
            rw [hT]
            rintro e w' ⟨rfl, rfl⟩
            clear hT
            go_wp2_with fail
            go_ret
            exact ⟨by rw [HN.out]; rfl, HB.out⟩
          · rcases Nat.eq_zero_or_pos k with hk0 | hk0
            · have HK : Hid (k = 0) := hk0
              have HST : Hid (stepOk R k) := ⟨hS, hT, fun h => by omega⟩
              have hgt : decide (0 < (k : Int)) = false := by simp; omega
              clear hk0
              go_wp2_with fail
              refine (isSize_any (R.sz k) _).mono ?_
              rw [hS]
              rintro e w' ⟨rfl, rfl⟩
              clear hS
              go_wp2_with fail
              refine (isTime_any (R.ag k) _).mono ?_
              rw [hT]
              rintro e w' ⟨rfl, rfl⟩
              clear hT
              go_wp2_with fail
              refine wp_region_noPanic ?_
              refine wp_region_held_drew (S := (fun w' => RBox R w.heap.size w' ∧ Below w.heap.size w w')) (by kernel_rfl) ?_ (fun hHeld => ?_)
              · exact ⟨⟨hb0, by rw [ha]; exact hb1, hb2⟩, HB.out.drew⟩
              refine wpAnyH_take (i := 0) (v := .int .i64 k) rfl (by kernel_rfl) (by kernel_rfl) (by kernel_rfl) (fun _ _ _ h => h) (Or.inl ⟨by rfl, ?_⟩) (by assumption) ?_
              · (intro w1 hSw; (try dsimp only at hSw); go_simp)
              simp only [List.getElem_toArray, List.getElem_cons_zero, Act.put, List.setIfInBounds_toArray, List.set_cons_zero, List.set_cons_succ]
              refine wpAnyH_take (i := 1) (v := .bool false) rfl (by kernel_rfl) (by kernel_rfl) (by kernel_rfl) (fun _ _ _ h => h) (Or.inl ⟨by rfl, ?_⟩) (by assumption) ?_
              · (intro w1 hSw; (try dsimp only at hSw); go_simp; exact HK.out)
              simp only [List.getElem_toArray, List.getElem_cons_succ, List.getElem_cons_zero, Act.put, List.setIfInBounds_toArray, List.set_cons_zero, List.set_cons_succ]
              refine wpAnyH_take (i := 2) (v := .bool false) rfl (by kernel_rfl) (by kernel_rfl) (by kernel_rfl) (fun _ _ _ h => h) (Or.inl ⟨by rfl, ?_⟩) (by assumption) ?_
              · (intro w1 hSw; (try dsimp only at hSw); go_simp)
              simp only [List.getElem_toArray, List.getElem_cons_succ, List.getElem_cons_zero, Act.put, List.setIfInBounds_toArray, List.set_cons_zero, List.set_cons_succ]
              refine wpAnyH_take (i := 3) (v := undef) rfl (by kernel_rfl) (by kernel_rfl) (by kernel_rfl) (fun _ _ _ h => h) (Or.inr ⟨by rfl, rfl⟩) (by assumption) ?_
              simp only [List.getElem_toArray, List.getElem_cons_succ, List.getElem_cons_zero, Act.put, List.setIfInBounds_toArray, List.set_cons_zero, List.set_cons_succ]
              refine wpAnyH_take (i := 4) (v := undef) rfl (by kernel_rfl) (by kernel_rfl) (by kernel_rfl) (fun _ _ _ h => h) (Or.inr ⟨by rfl, rfl⟩) (by assumption) ?_
              simp only [List.getElem_toArray, List.getElem_cons_succ, List.getElem_cons_zero, Act.put, List.setIfInBounds_toArray, List.set_cons_zero, List.set_cons_succ]
              refine wpAnyH_take (i := 5) (v := undef) rfl (by kernel_rfl) (by kernel_rfl) (by kernel_rfl) (fun _ _ _ h => h) (Or.inr ⟨by rfl, rfl⟩) (by assumption) ?_
              simp only [List.getElem_toArray, List.getElem_cons_succ, List.getElem_cons_zero, Act.put, List.setIfInBounds_toArray, List.set_cons_zero, List.set_cons_succ]
              refine wpAnyH_take (i := 6) (v := undef) rfl (by kernel_rfl) (by kernel_rfl) (by kernel_rfl) (fun _ _ _ h => h) (Or.inr ⟨by rfl, rfl⟩) (by assumption) ?_
              simp only [List.getElem_toArray, List.getElem_cons_succ, List.getElem_cons_zero, Act.put, List.setIfInBounds_toArray, List.set_cons_zero, List.set_cons_succ]
              refine wpAnyH_take (i := 7) (v := undef) rfl (by kernel_rfl) (by kernel_rfl) (by kernel_rfl) (fun _ _ _ h => h) (Or.inr ⟨by rfl, rfl⟩) (by assumption) ?_
              simp only [List.getElem_toArray, List.getElem_cons_succ, List.getElem_cons_zero, Act.put, List.setIfInBounds_toArray, List.set_cons_zero, List.set_cons_succ]
              refine wpAnyH_take (i := 8) (v := undef) rfl (by kernel_rfl) (by kernel_rfl) (by kernel_rfl) (fun _ _ _ h => h) (Or.inr ⟨by rfl, rfl⟩) (by assumption) ?_
              simp only [List.getElem_toArray, List.getElem_cons_succ, List.getElem_cons_zero, Act.put, List.setIfInBounds_toArray, List.set_cons_zero, List.set_cons_succ]
              refine wpAnyH_take (i := 9) (v := undef) rfl (by kernel_rfl) (by kernel_rfl) (by kernel_rfl) (fun _ _ _ h => h) (Or.inr ⟨by rfl, rfl⟩) (by assumption) ?_
              simp only [List.getElem_toArray, List.getElem_cons_succ, List.getElem_cons_zero, Act.put, List.setIfInBounds_toArray, List.set_cons_zero, List.set_cons_succ]
              refine wpAnyH_take (i := 10) (v := undef) rfl (by kernel_rfl) (by kernel_rfl) (by kernel_rfl) (fun _ _ _ h => h) (Or.inr ⟨by rfl, rfl⟩) (by assumption) ?_
              simp only [List.getElem_toArray, List.getElem_cons_succ, List.getElem_cons_zero, Act.put, List.setIfInBounds_toArray, List.set_cons_zero, List.set_cons_succ]
              refine wpAnyH_take (i := 11) (v := undef) rfl (by kernel_rfl) (by kernel_rfl) (by kernel_rfl) (fun _ _ _ h => h) (Or.inr ⟨by rfl, rfl⟩) (by assumption) ?_
              simp only [List.getElem_toArray, List.getElem_cons_succ, List.getElem_cons_zero, Act.put, List.setIfInBounds_toArray, List.set_cons_zero, List.set_cons_succ]
              refine wpAnyH_take (i := 12) (v := undef) rfl (by kernel_rfl) (by kernel_rfl) (by kernel_rfl) (fun _ _ _ h => h) (Or.inr ⟨by rfl, rfl⟩) (by assumption) ?_
              simp only [List.getElem_toArray, List.getElem_cons_succ, List.getElem_cons_zero, Act.put, List.setIfInBounds_toArray, List.set_cons_zero, List.set_cons_succ]
              refine wpAnyH_take (i := 13) (v := undef) rfl (by kernel_rfl) (by kernel_rfl) (by kernel_rfl) (fun _ _ _ h => h) (Or.inr ⟨by rfl, rfl⟩) (by assumption) ?_
              simp only [List.getElem_toArray, List.getElem_cons_succ, List.getElem_cons_zero, Act.put, List.setIfInBounds_toArray, List.set_cons_zero, List.set_cons_succ]
              refine wpAnyH_take (i := 14) (v := undef) rfl (by kernel_rfl) (by kernel_rfl) (by kernel_rfl) (fun _ _ _ h => h) (Or.inr ⟨by rfl, rfl⟩) (by assumption) ?_
              simp only [List.getElem_toArray, List.getElem_cons_succ, List.getElem_cons_zero, Act.put, List.setIfInBounds_toArray, List.set_cons_zero, List.set_cons_succ]
              refine wpAnyH_take (i := 15) (v := undef) rfl (by kernel_rfl) (by kernel_rfl) (by kernel_rfl) (fun _ _ _ h => h) (Or.inr ⟨by rfl, rfl⟩) (by assumption) ?_
              simp only [List.getElem_toArray, List.getElem_cons_succ, List.getElem_cons_zero, Act.put, List.setIfInBounds_toArray, List.set_cons_zero, List.set_cons_succ]
              refine wpAnyH_take (i := 16) (v := .bool false) rfl (by kernel_rfl) (by kernel_rfl) (by kernel_rfl) (fun _ _ _ h => h) (Or.inl ⟨by rfl, ?_⟩) (by assumption) ?_
              · (intro w1 hSw; (try dsimp only at hSw); go_simp)
              simp only [List.getElem_toArray, List.getElem_cons_succ, List.getElem_cons_zero, Act.put, List.setIfInBounds_toArray, List.set_cons_zero, List.set_cons_succ]
              refine wpAnyH_done (by kernel_rfl) ?_ _
              refine NoPanic.normal ?_
              go_wp2_with fail
              go_roundw
              case rel =>
                refine ⟨k + 1, by omega, by go_num, fun j hj => ?_, hHeld.1, hHeld.2⟩
                have : j = k := by have := HK.out; omega
                subst this; exact HST.out
              case measure => simp [intOf]; omega
            · obtain ⟨m, hkm⟩ : ∃ m, k = m + 1 := ⟨k - 1, by omega⟩
              have EK : Hid (k = m + 1) := hkm
              have hm0 : wr.cell? ⟨b, off + m * 2, none⟩ = some (.int .i64 (R.sz m)) := (HB.out.cell (p := ⟨b, off + m * 2, none⟩) hbN).trans (HC.out m (by omega)).1
              have hm1 : wr.cell? ⟨b, off + m * 2 + 1, none⟩ = some (.int .i64 (R.ag m)) := (HB.out.cell (p := ⟨b, off + m * 2 + 1, none⟩) hbN).trans (HC.out m (by omega)).2
              have hSm := (HO.out m (by omega)).1
              have HSm : Hid _ := hSm
              have HSk : Hid _ := hS
              have HTk : Hid _ := hT
              clear hSm
              have hgt : decide (0 < (k : Int)) = true := by simp; omega
              have i0 : (0 : Int) ≤ (m : Int) := by omega
              have i1 : (m : Int) < (R.len : Int) := by omega
              have i2 : IntKind.i64.wrap ((k : Int) - 1) = (m : Int) := by rw [IntKind.wrap_i64]; omega
              have i3 : (0 : Int) < (k : Int) := by omega
              have i4 : (k : Int) ≤ 4 := by omega
              clear hkm
              go_wp2_with fail
              refine (isSize_any (R.sz k) _).mono ?_
              rw [hS]
              rintro e w' ⟨rfl, rfl⟩
              clear hS
              go_wp2_with fail
              refine (isTime_any (R.ag k) _).mono ?_
              rw [hT]
              rintro e w' ⟨rfl, rfl⟩
              clear hT
              go_wp2_with fail
              cases hF : folB (R.sz m) (R.ag m) (R.sz k) (R.ag k)
              · have HN : Hid _ := no_step R k hlt (fun hh => by have := hh.2.2 hk0; rw [show k - 1 = m by have := EK.out; omega, hF] at this; cases this)
                go_region_held3 (fun w' => w'.cell? ⟨w.heap.size, 0, none⟩ = some (.slice (some ⟨b, off, none⟩) R.len R.cap) ∧ w'.cell? ⟨w.heap.size, 1, none⟩ = some (.int .i64 R.kp) ∧ w.heap.size < w'.heap.size ∧ w'.cell? ⟨b, off + m * 2, none⟩ = some (.int .i64 (R.sz m)) ∧ w'.cell? ⟨b, off + m * 2 + 1, none⟩ = some (.int .i64 (R.ag m)) ∧ w'.cell? ⟨b, off + k * 2, none⟩ = some (.int .i64 (R.sz k)) ∧ w'.cell? ⟨b, off + k * 2 + 1, none⟩ = some (.int .i64 (R.ag k)) ∧ Below w.heap.size w w') (first | exact ⟨hb1, hb2, hb0, hm0, hm1, q0, q1, HB.out.drew⟩ | exact held_below hbN hbf (by assumption)) (first | (go_at_call 58; refine (follows_any (R.sz m) (R.ag m) (R.sz k) (R.ag k) HSm.out HSk.out _).mono ?_; rw [hF]; rintro e w' ⟨rfl, hbf⟩; clear hF))
                rename_i HZ
                go_wp2_with fail
                go_ret
                exact ⟨by rw [HN.out]; rfl, HZ.2.2.2.2.2.2.2⟩
              · have HST : Hid (stepOk R k) := ⟨HSk.out, HTk.out, fun _ => by rw [show k - 1 = m by have := EK.out; omega]; exact hF⟩
                go_region_held3 (fun w' => w'.cell? ⟨w.heap.size, 0, none⟩ = some (.slice (some ⟨b, off, none⟩) R.len R.cap) ∧ w'.cell? ⟨w.heap.size, 1, none⟩ = some (.int .i64 R.kp) ∧ w.heap.size < w'.heap.size ∧ w'.cell? ⟨b, off + m * 2, none⟩ = some (.int .i64 (R.sz m)) ∧ w'.cell? ⟨b, off + m * 2 + 1, none⟩ = some (.int .i64 (R.ag m)) ∧ w'.cell? ⟨b, off + k * 2, none⟩ = some (.int .i64 (R.sz k)) ∧ w'.cell? ⟨b, off + k * 2 + 1, none⟩ = some (.int .i64 (R.ag k)) ∧ Below w.heap.size w w') (first | exact ⟨hb1, hb2, hb0, hm0, hm1, q0, q1, HB.out.drew⟩ | exact held_below hbN hbf (by assumption)) (first | (go_at_call 58; refine (follows_any (R.sz m) (R.ag m) (R.sz k) (R.ag k) HSm.out HSk.out _).mono ?_; rw [hF]; rintro e w' ⟨rfl, hbf⟩; clear hF))
                rename_i HZ
                go_wp2_with fail
                go_roundw
                case rel =>
                  refine ⟨k + 1, by omega, by go_num, fun j hj => ?_, ⟨HZ.2.2.1, by rw [ha]; exact HZ.1, HZ.2.1⟩, HZ.2.2.2.2.2.2.2⟩
                  rcases Nat.lt_or_ge j k with h | h
                  · exact HO.out j h
                  · have : j = k := by omega
                    subst this; exact HST.out
                case measure => simp [intOf]; omega
      · have hke : k = R.len := by omega
        subst hke
        obtain ⟨m, hm'⟩ : ∃ m, R.len = m + 1 := ⟨R.len - 1, by omega⟩
        have q1 : wr.cell? ⟨b, off + m * 2 + 1, none⟩ = some (.int .i64 (R.ag m)) := (hbel.cell (p := ⟨b, off + m * 2 + 1, none⟩) hbN).trans (hc m (by omega)).2
        obtain ⟨hb0, hb1, hb2⟩ := hbx
        rw [ha] at hb1
        have HE : Hid (decide (RightP R) = (decide (R.ag m ≤ R.kp) && decide (R.kp ≤ 2199023255552))) := by
          unfold Hid
          rw [← Bool.decide_and]
          apply decide_eq_decide.2
          constructor
          · rintro ⟨_, _, _, _, h5, h6⟩; rw [hm'] at h5; exact ⟨h5, h6⟩
          · rintro ⟨h5, h6⟩; exact ⟨h, h4, h0, hok, by rw [hm']; exact h5, h6⟩
        have HB : Hid (Below w.heap.size w wr) := hbel
        clear hbel hc hok c00 c01 e1 e2 e3 e4 h0
        have hlt2 : IntKind.i64.wrap ((R.len : Int) - 1) = (m : Int) := by rw [IntKind.wrap_i64]; omega
        have i0 : (0 : Int) ≤ (m : Int) := by omega
        have i1 : (m : Int) < (R.len : Int) := by omega
        have i3 : (0 : Int) < (R.len : Int) := by omega
        have i4 : (R.len : Int) ≤ 4 := by omega
        clear hm'
        generalize g1 : decide (R.ag m ≤ R.kp) = p at HE
        generalize g2 : decide (R.kp ≤ 2199023255552) = q at HE
        cases p
        · go_wp2_with fail
          refine wp_region_noPanic ?_
          refine wp_region_held_drew (S := (fun w' => w'.cell? ⟨w.heap.size, 0, none⟩ = some (.slice (some ⟨b, off, none⟩) R.len R.cap) ∧ w'.cell? ⟨w.heap.size, 1, none⟩ = some (.int .i64 R.kp) ∧ w'.cell? ⟨b, off + m * 2 + 1, none⟩ = some (.int .i64 (R.ag m)) ∧ Below w.heap.size w w')) (by kernel_rfl) ?_ (fun hHeld => ?_)
          · exact ⟨hb1, hb2, q1, HB.out.drew⟩
          refine wpAnyH_take (i := 0) (v := .pointer (some ⟨w.heap.size, 1, none⟩)) rfl (by kernel_rfl) (by kernel_rfl) (by kernel_rfl) (fun _ _ _ h => h) (Or.inl ⟨by rfl, ?_⟩) (by assumption) ?_
          · (intro w1 hSw; (try dsimp only at hSw); go_simp)
          simp only [List.getElem_toArray, List.getElem_cons_zero, Act.put, List.setIfInBounds_toArray, List.set_cons_zero, List.set_cons_succ]
          refine wpAnyH_take (i := 1) (v := .int .i64 R.kp) rfl (by kernel_rfl) (by kernel_rfl) (by kernel_rfl) (fun _ _ _ h => h) (Or.inl ⟨by rfl, ?_⟩) (by assumption) ?_
          · (intro w1 hSw; (try dsimp only at hSw); go_simp)
          simp only [List.getElem_toArray, List.getElem_cons_succ, List.getElem_cons_zero, Act.put, List.setIfInBounds_toArray, List.set_cons_zero, List.set_cons_succ]
          refine wpAnyH_take (i := 2) (v := .pointer (some ⟨w.heap.size, 0, none⟩)) rfl (by kernel_rfl) (by kernel_rfl) (by kernel_rfl) (fun _ _ _ h => h) (Or.inl ⟨by rfl, ?_⟩) (by assumption) ?_
          · (intro w1 hSw; (try dsimp only at hSw); go_simp)
          simp only [List.getElem_toArray, List.getElem_cons_succ, List.getElem_cons_zero, Act.put, List.setIfInBounds_toArray, List.set_cons_zero, List.set_cons_succ]
          refine wpAnyH_take (i := 3) (v := .slice (some ⟨b, off, none⟩) R.len R.cap) rfl (by kernel_rfl) (by kernel_rfl) (by kernel_rfl) (fun _ _ _ h => h) (Or.inl ⟨by rfl, ?_⟩) (by assumption) ?_
          · (intro w1 hSw; (try dsimp only at hSw); go_simp)
          simp only [List.getElem_toArray, List.getElem_cons_succ, List.getElem_cons_zero, Act.put, List.setIfInBounds_toArray, List.set_cons_zero, List.set_cons_succ]
          refine wpAnyH_take (i := 4) (v := .int .i64 R.len) rfl (by kernel_rfl) (by kernel_rfl) (by kernel_rfl) (fun _ _ _ h => h) (Or.inl ⟨by rfl, ?_⟩) (by assumption) ?_
          · (intro w1 hSw; (try dsimp only at hSw); go_simp)
          simp only [List.getElem_toArray, List.getElem_cons_succ, List.getElem_cons_zero, Act.put, List.setIfInBounds_toArray, List.set_cons_zero, List.set_cons_succ]
          refine wpAnyH_take (i := 5) (v := .int .i64 m) rfl (by kernel_rfl) (by kernel_rfl) (by kernel_rfl) (fun _ _ _ h => h) (Or.inl ⟨by rfl, ?_⟩) (by assumption) ?_
          · (intro w1 hSw; (try dsimp only at hSw); go_simp)
          simp only [List.getElem_toArray, List.getElem_cons_succ, List.getElem_cons_zero, Act.put, List.setIfInBounds_toArray, List.set_cons_zero, List.set_cons_succ]
          refine wpAnyH_take (i := 6) (v := .pointer (some ⟨b, off + m * 2, none⟩)) rfl (by kernel_rfl) (by kernel_rfl) (by kernel_rfl) (fun _ _ _ h => h) (Or.inl ⟨by rfl, ?_⟩) (by assumption) ?_
          · (intro w1 hSw; (try dsimp only at hSw); go_simp)
          simp only [List.getElem_toArray, List.getElem_cons_succ, List.getElem_cons_zero, Act.put, List.setIfInBounds_toArray, List.set_cons_zero, List.set_cons_succ]
          refine wpAnyH_take (i := 7) (v := .pointer (some ⟨b, off + m * 2 + 1, none⟩)) rfl (by kernel_rfl) (by kernel_rfl) (by kernel_rfl) (fun _ _ _ h => h) (Or.inl ⟨by rfl, ?_⟩) (by assumption) ?_
          · (intro w1 hSw; (try dsimp only at hSw); go_simp)
          simp only [List.getElem_toArray, List.getElem_cons_succ, List.getElem_cons_zero, Act.put, List.setIfInBounds_toArray, List.set_cons_zero, List.set_cons_succ]
          refine wpAnyH_take (i := 8) (v := .int .i64 (R.ag m)) rfl (by kernel_rfl) (by kernel_rfl) (by kernel_rfl) (fun _ _ _ h => h) (Or.inl ⟨by rfl, ?_⟩) (by assumption) ?_
          · (intro w1 hSw; (try dsimp only at hSw); go_simp)
          simp only [List.getElem_toArray, List.getElem_cons_succ, List.getElem_cons_zero, Act.put, List.setIfInBounds_toArray, List.set_cons_zero, List.set_cons_succ]
          refine wpAnyH_take (i := 9) (v := .bool false) rfl (by kernel_rfl) (by kernel_rfl) (by kernel_rfl) (fun _ _ _ h => h) (Or.inl ⟨by rfl, ?_⟩) (by assumption) ?_
          · (intro w1 hSw; (try dsimp only at hSw); go_simp)
          simp only [List.getElem_toArray, List.getElem_cons_succ, List.getElem_cons_zero, Act.put, List.setIfInBounds_toArray, List.set_cons_zero, List.set_cons_succ]
          refine wpAnyH_take (i := 10) (v := .bool false) rfl (by kernel_rfl) (by kernel_rfl) (by kernel_rfl) (fun _ _ _ h => h) (Or.inl ⟨by rfl, ?_⟩) (by assumption) ?_
          · (intro w1 hSw; (try dsimp only at hSw); go_simp)
          simp only [List.getElem_toArray, List.getElem_cons_succ, List.getElem_cons_zero, Act.put, List.setIfInBounds_toArray, List.set_cons_zero, List.set_cons_succ]
          refine wpAnyH_take (i := 11) (v := undef) rfl (by kernel_rfl) (by kernel_rfl) (by kernel_rfl) (fun _ _ _ h => h) (Or.inr ⟨by rfl, rfl⟩) (by assumption) ?_
          simp only [List.getElem_toArray, List.getElem_cons_succ, List.getElem_cons_zero, Act.put, List.setIfInBounds_toArray, List.set_cons_zero, List.set_cons_succ]
          refine wpAnyH_take (i := 12) (v := undef) rfl (by kernel_rfl) (by kernel_rfl) (by kernel_rfl) (fun _ _ _ h => h) (Or.inr ⟨by rfl, rfl⟩) (by assumption) ?_
          simp only [List.getElem_toArray, List.getElem_cons_succ, List.getElem_cons_zero, Act.put, List.setIfInBounds_toArray, List.set_cons_zero, List.set_cons_succ]
          refine wpAnyH_take (i := 13) (v := undef) rfl (by kernel_rfl) (by kernel_rfl) (by kernel_rfl) (fun _ _ _ h => h) (Or.inr ⟨by rfl, rfl⟩) (by assumption) ?_
          simp only [List.getElem_toArray, List.getElem_cons_succ, List.getElem_cons_zero, Act.put, List.setIfInBounds_toArray, List.set_cons_zero, List.set_cons_succ]
          refine wpAnyH_take (i := 14) (v := .bool false) rfl (by kernel_rfl) (by kernel_rfl) (by kernel_rfl) (fun _ _ _ h => h) (Or.inl ⟨by rfl, ?_⟩) (by assumption) ?_
          · (intro w1 hSw; (try dsimp only at hSw); go_simp)
          simp only [List.getElem_toArray, List.getElem_cons_succ, List.getElem_cons_zero, Act.put, List.setIfInBounds_toArray, List.set_cons_zero, List.set_cons_succ]
          refine wpAnyH_take (i := 15) (v := .bool false) rfl (by kernel_rfl) (by kernel_rfl) (by kernel_rfl) (fun _ _ _ h => h) (Or.inl ⟨by rfl, ?_⟩) (by assumption) ?_
          · (intro w1 hSw; (try dsimp only at hSw); go_simp)
          simp only [List.getElem_toArray, List.getElem_cons_succ, List.getElem_cons_zero, Act.put, List.setIfInBounds_toArray, List.set_cons_zero, List.set_cons_succ]
          refine wpAnyH_done (by kernel_rfl) ?_ _
          refine NoPanic.normal ?_
          go_wp2_with fail
          go_ret
          exact ⟨by rw [HE.out]; rfl, hHeld.2.2.2⟩
        · go_wp2_with fail
          refine wp_region_noPanic ?_
          refine wp_region_held_drew (S := (fun w' => w'.cell? ⟨w.heap.size, 0, none⟩ = some (.slice (some ⟨b, off, none⟩) R.len R.cap) ∧ w'.cell? ⟨w.heap.size, 1, none⟩ = some (.int .i64 R.kp) ∧ w'.cell? ⟨b, off + m * 2 + 1, none⟩ = some (.int .i64 (R.ag m)) ∧ Below w.heap.size w w')) (by kernel_rfl) ?_ (fun hHeld => ?_)
          · exact ⟨hb1, hb2, q1, HB.out.drew⟩
          refine wpAnyH_take (i := 0) (v := .pointer (some ⟨w.heap.size, 1, none⟩)) rfl (by kernel_rfl) (by kernel_rfl) (by kernel_rfl) (fun _ _ _ h => h) (Or.inl ⟨by rfl, ?_⟩) (by assumption) ?_
          · (intro w1 hSw; (try dsimp only at hSw); go_simp)
          simp only [List.getElem_toArray, List.getElem_cons_zero, Act.put, List.setIfInBounds_toArray, List.set_cons_zero, List.set_cons_succ]
          refine wpAnyH_take (i := 1) (v := .int .i64 R.kp) rfl (by kernel_rfl) (by kernel_rfl) (by kernel_rfl) (fun _ _ _ h => h) (Or.inl ⟨by rfl, ?_⟩) (by assumption) ?_
          · (intro w1 hSw; (try dsimp only at hSw); go_simp)
          simp only [List.getElem_toArray, List.getElem_cons_succ, List.getElem_cons_zero, Act.put, List.setIfInBounds_toArray, List.set_cons_zero, List.set_cons_succ]
          refine wpAnyH_take (i := 2) (v := .pointer (some ⟨w.heap.size, 0, none⟩)) rfl (by kernel_rfl) (by kernel_rfl) (by kernel_rfl) (fun _ _ _ h => h) (Or.inl ⟨by rfl, ?_⟩) (by assumption) ?_
          · (intro w1 hSw; (try dsimp only at hSw); go_simp)
          simp only [List.getElem_toArray, List.getElem_cons_succ, List.getElem_cons_zero, Act.put, List.setIfInBounds_toArray, List.set_cons_zero, List.set_cons_succ]
          refine wpAnyH_take (i := 3) (v := .slice (some ⟨b, off, none⟩) R.len R.cap) rfl (by kernel_rfl) (by kernel_rfl) (by kernel_rfl) (fun _ _ _ h => h) (Or.inl ⟨by rfl, ?_⟩) (by assumption) ?_
          · (intro w1 hSw; (try dsimp only at hSw); go_simp)
          simp only [List.getElem_toArray, List.getElem_cons_succ, List.getElem_cons_zero, Act.put, List.setIfInBounds_toArray, List.set_cons_zero, List.set_cons_succ]
          refine wpAnyH_take (i := 4) (v := .int .i64 R.len) rfl (by kernel_rfl) (by kernel_rfl) (by kernel_rfl) (fun _ _ _ h => h) (Or.inl ⟨by rfl, ?_⟩) (by assumption) ?_
          · (intro w1 hSw; (try dsimp only at hSw); go_simp)
          simp only [List.getElem_toArray, List.getElem_cons_succ, List.getElem_cons_zero, Act.put, List.setIfInBounds_toArray, List.set_cons_zero, List.set_cons_succ]
          refine wpAnyH_take (i := 5) (v := .int .i64 m) rfl (by kernel_rfl) (by kernel_rfl) (by kernel_rfl) (fun _ _ _ h => h) (Or.inl ⟨by rfl, ?_⟩) (by assumption) ?_
          · (intro w1 hSw; (try dsimp only at hSw); go_simp)
          simp only [List.getElem_toArray, List.getElem_cons_succ, List.getElem_cons_zero, Act.put, List.setIfInBounds_toArray, List.set_cons_zero, List.set_cons_succ]
          refine wpAnyH_take (i := 6) (v := .pointer (some ⟨b, off + m * 2, none⟩)) rfl (by kernel_rfl) (by kernel_rfl) (by kernel_rfl) (fun _ _ _ h => h) (Or.inl ⟨by rfl, ?_⟩) (by assumption) ?_
          · (intro w1 hSw; (try dsimp only at hSw); go_simp)
          simp only [List.getElem_toArray, List.getElem_cons_succ, List.getElem_cons_zero, Act.put, List.setIfInBounds_toArray, List.set_cons_zero, List.set_cons_succ]
          refine wpAnyH_take (i := 7) (v := .pointer (some ⟨b, off + m * 2 + 1, none⟩)) rfl (by kernel_rfl) (by kernel_rfl) (by kernel_rfl) (fun _ _ _ h => h) (Or.inl ⟨by rfl, ?_⟩) (by assumption) ?_
          · (intro w1 hSw; (try dsimp only at hSw); go_simp)
          simp only [List.getElem_toArray, List.getElem_cons_succ, List.getElem_cons_zero, Act.put, List.setIfInBounds_toArray, List.set_cons_zero, List.set_cons_succ]
          refine wpAnyH_take (i := 8) (v := .int .i64 (R.ag m)) rfl (by kernel_rfl) (by kernel_rfl) (by kernel_rfl) (fun _ _ _ h => h) (Or.inl ⟨by rfl, ?_⟩) (by assumption) ?_
          · (intro w1 hSw; (try dsimp only at hSw); go_simp)
          simp only [List.getElem_toArray, List.getElem_cons_succ, List.getElem_cons_zero, Act.put, List.setIfInBounds_toArray, List.set_cons_zero, List.set_cons_succ]
          refine wpAnyH_take (i := 9) (v := .bool true) rfl (by kernel_rfl) (by kernel_rfl) (by kernel_rfl) (fun _ _ _ h => h) (Or.inl ⟨by rfl, ?_⟩) (by assumption) ?_
          · (intro w1 hSw; (try dsimp only at hSw); go_simp)
          simp only [List.getElem_toArray, List.getElem_cons_succ, List.getElem_cons_zero, Act.put, List.setIfInBounds_toArray, List.set_cons_zero, List.set_cons_succ]
          refine wpAnyH_take (i := 10) (v := .bool true) rfl (by kernel_rfl) (by kernel_rfl) (by kernel_rfl) (fun _ _ _ h => h) (Or.inl ⟨by rfl, ?_⟩) (by assumption) ?_
          · (intro w1 hSw; (try dsimp only at hSw); go_simp)
          simp only [List.getElem_toArray, List.getElem_cons_succ, List.getElem_cons_zero, Act.put, List.setIfInBounds_toArray, List.set_cons_zero, List.set_cons_succ]
          refine wpAnyH_take (i := 11) (v := .pointer (some ⟨w.heap.size, 1, none⟩)) rfl (by kernel_rfl) (by kernel_rfl) (by kernel_rfl) (fun _ _ _ h => h) (Or.inl ⟨by rfl, ?_⟩) (by assumption) ?_
          · (intro w1 hSw; (try dsimp only at hSw); go_simp)
          simp only [List.getElem_toArray, List.getElem_cons_succ, List.getElem_cons_zero, Act.put, List.setIfInBounds_toArray, List.set_cons_zero, List.set_cons_succ]
          refine wpAnyH_take (i := 12) (v := .int .i64 R.kp) rfl (by kernel_rfl) (by kernel_rfl) (by kernel_rfl) (fun _ _ _ h => h) (Or.inl ⟨by rfl, ?_⟩) (by assumption) ?_
          · (intro w1 hSw; (try dsimp only at hSw); go_simp)
          simp only [List.getElem_toArray, List.getElem_cons_succ, List.getElem_cons_zero, Act.put, List.setIfInBounds_toArray, List.set_cons_zero, List.set_cons_succ]
          refine wpAnyH_take (i := 13) (v := .bool q) rfl (by kernel_rfl) (by kernel_rfl) (by kernel_rfl) (fun _ _ _ h => h) (Or.inl ⟨by rfl, ?_⟩) (by assumption) ?_
          · (intro w1 hSw; (try dsimp only at hSw); go_simp)
          simp only [List.getElem_toArray, List.getElem_cons_succ, List.getElem_cons_zero, Act.put, List.setIfInBounds_toArray, List.set_cons_zero, List.set_cons_succ]
          refine wpAnyH_take (i := 14) (v := .bool q) rfl (by kernel_rfl) (by kernel_rfl) (by kernel_rfl) (fun _ _ _ h => h) (Or.inl ⟨by rfl, ?_⟩) (by assumption) ?_
          · (intro w1 hSw; (try dsimp only at hSw); go_simp)
          simp only [List.getElem_toArray, List.getElem_cons_succ, List.getElem_cons_zero, Act.put, List.setIfInBounds_toArray, List.set_cons_zero, List.set_cons_succ]
          refine wpAnyH_take (i := 15) (v := .bool q) rfl (by kernel_rfl) (by kernel_rfl) (by kernel_rfl) (fun _ _ _ h => h) (Or.inl ⟨by rfl, ?_⟩) (by assumption) ?_
          · (intro w1 hSw; (try dsimp only at hSw); go_simp)
          simp only [List.getElem_toArray, List.getElem_cons_succ, List.getElem_cons_zero, Act.put, List.setIfInBounds_toArray, List.set_cons_zero, List.set_cons_succ]
          refine wpAnyH_done (by kernel_rfl) ?_ _
          refine NoPanic.normal ?_
          go_wp2_with fail
          go_ret
          exact ⟨by rw [HE.out]; rfl, hHeld.2.2.2⟩
  · have e3 : (R.ag 0 == 0) = false := by simpa using h0
    have e4 : (R.ag 0 != 0) = true := by simpa using h0
    have hn : decide (RightP R) = false := by
      apply decide_eq_false; rintro ⟨h1, h2, h3, _⟩; exact h0 h3
    rw [hn]
    clear h0 hc hn
    go_enter Try.func31, Try.ntmps31
    go_wp2_with fail
    go_ret
    exact ⟨rfl, (Below.refl _ _).alloc (by simp) _⟩
theorem right_anyG (R : Rl) (w : World) (hL : Lies R w.heap.size w) :
    Calls Try.prog 31 #[.agg #[.slice R.a R.len R.cap, .int .i64 R.kp]] w fun e w' => e = .returned (.bool (decide (RightP R))) ∧ Below w.heap.size w w' := by
  by_cases h1 : 1 ≤ R.len
  · by_cases h4 : R.len ≤ 4
    · exact right_someG R w h1 h4 hL
    · exact right_many R w (by omega)
  · exact right_many R w (by omega)
end Go.Proofs.Ytbadjigfcncfcaa

/- Plain arithmetic of buckets and steps: no program in sight. -/
namespace Go.Proofs.Ytbadjigfcncfcaa
open Go.RowKit

theorem mul_lt_succ {s a b : Int} (hs : 0 < s) (h : s * a < s * b) : s * a + s ≤ s * b := by
  have h1 : a < b := Int.lt_of_mul_lt_mul_left h (by omega)
  have h2 : s * (a + 1) ≤ s * b := Int.mul_le_mul_of_nonneg_left (by omega) (by omega)
  rw [Int.mul_add, Int.mul_one] at h2
  exact h2
/-- A finer bucket lies within the coarser one. -/
theorem nest (t s S : Int) (h1 : 1 ≤ s) (h2 : s < S) (hd : S % s = 0) (ht : 0 ≤ t) : t - t % S ≤ t - t % s ∧ endF t s ≤ endF t S := by
  have e1 := Int.emod_add_mul_ediv t s
  have e2 := Int.emod_add_mul_ediv t S
  obtain ⟨c, hc⟩ := Int.dvd_of_emod_eq_zero hd
  have b1 := mod_bd t s ht h1
  have b2 := mod_bd t S ht (by omega)
  have f1 : t - t % s = s * (t / s) := by omega
  have f2 : t - t % S = s * (c * (t / S)) := by rw [← Int.mul_assoc, ← hc]; omega
  have f3 : t - t % S + S = s * (c * (t / S) + c) := by rw [f2, Int.mul_add, ← hc]
  constructor
  · by_cases h : t - t % S ≤ t - t % s
    · exact h
    · have : s * (t / s) < s * (c * (t / S)) := by omega
      have := mul_lt_succ (by omega) this
      omega
  · unfold endF
    have : s * (t / s) < s * (c * (t / S) + c) := by omega
    have := mul_lt_succ (by omega) this
    omega

/-- A step's bucket is old enough. -/
def cnd (R : Rl) (t w : Int) (j : Nat) : Prop := endF t (R.sz j) ≤ w - R.ag j
instance (R : Rl) (t w : Int) (j : Nat) : Decidable (cnd R t w j) := by unfold cnd; infer_instance
theorem fol_facts {R : Rl} (hR : RightP R) {j : Nat} (hj : j + 1 < R.len) : 1 ≤ R.sz j ∧ R.sz j < R.sz (j + 1) ∧ R.sz (j + 1) % R.sz j = 0 ∧ R.ag j ≤ R.ag (j + 1) := by
  obtain ⟨_, _, _, h, _⟩ := hR
  have h0 := (isS_iff _).1 (h j (by omega)).1
  have h1 := (h (j + 1) hj).2.2 (by omega)
  simp only [Nat.add_sub_cancel] at h1
  unfold folB at h1
  simp at h1
  exact ⟨h0.1, h1.1, h1.2.1, h1.2.2⟩
theorem cnd_down {R : Rl} (hR : RightP R) {t w : Int} (ht : isT t = true) {j : Nat} (hj : j + 1 < R.len) (h : cnd R t w (j + 1)) : cnd R t w j := by
  obtain ⟨f1, f2, f3, f4⟩ := fol_facts hR hj
  have := (nest t _ _ f1 f2 f3 ((isT_iff t).1 ht).1).2
  unfold cnd at *
  omega
theorem cnd_le {R : Rl} (hR : RightP R) {t w : Int} (ht : isT t = true) (d : Nat) : ∀ i, i + d < R.len → cnd R t w (i + d) → cnd R t w i := by
  induction d with
  | zero => intro i _ h; exact h
  | succ d ih => intro i hi h; exact ih i (by omega) (cnd_down hR ht (by omega) h)
/-- The step of a time at a watermark. -/
def IsStep (R : Rl) (t w : Int) (k : Nat) : Prop := k < R.len ∧ (k = 0 ∨ cnd R t w k) ∧ ∀ j, k < j → j < R.len → ¬ cnd R t w j
theorem IsStep.uniq {R : Rl} {t w : Int} {k l : Nat} (h : IsStep R t w k) (g : IsStep R t w l) : k = l := by
  rcases Nat.lt_trichotomy k l with e | e | e
  · rcases g.2.1 with h0 | h0
    · omega
    · exact absurd h0 (h.2.2 l e g.1)
  · exact e
  · rcases h.2.1 with h0 | h0
    · omega
    · exact absurd h0 (g.2.2 k e h.1)
theorem step_ex (R : Rl) (t w : Int) (n : Nat) (hn : n < R.len) (h : ∀ j, n < j → j < R.len → ¬ cnd R t w j) : ∃ k, IsStep R t w k := by
  induction n with
  | zero => exact ⟨0, hn, .inl rfl, h⟩
  | succ n ih =>
    by_cases hc : cnd R t w (n + 1)
    · exact ⟨n + 1, hn, .inr hc, h⟩
    · refine ih (by omega) fun j h1 h2 => ?_
      rcases Nat.lt_or_ge (n + 1) j with h3 | h3
      · exact h j h3 h2
      · have : j = n + 1 := by omega
        subst this; exact hc
theorem step_exists {R : Rl} (hR : RightP R) (t w : Int) : ∃ k, IsStep R t w k :=
  step_ex R t w (R.len - 1) (by have := hR.1; omega) (fun j h1 h2 => by omega)
/-- The first that is not old enough, behind those that are. -/
theorem isStep_break {R : Rl} (hR : RightP R) {t w : Int} (ht : isT t = true) {k : Nat} (hk : k < R.len) (h : ∀ j, j < k → cnd R t w j) (hn : ¬ cnd R t w k) : IsStep R t w (k - 1) := by
  refine ⟨by omega, ?_, ?_⟩
  · rcases Nat.eq_zero_or_pos k with h0 | h0
    · exact .inl (by omega)
    · exact .inr (h _ (by omega))
  · intro j h1 h2 hc
    exact hn (cnd_le hR ht (j - k) k (by omega) (by rw [show k + (j - k) = j by omega]; exact hc))
theorem isStep_all {R : Rl} (hR : RightP R) {t w : Int} (h : ∀ j, j < R.len → cnd R t w j) : IsStep R t w (R.len - 1) :=
  ⟨by have := hR.1; omega, .inr (h _ (by have := hR.1; omega)), fun j h1 h2 => by omega⟩
theorem sz_ok {R : Rl} (hR : RightP R) {i : Nat} (hi : i < R.len) : isS (R.sz i) = true := (hR.2.2.2.1 i hi).1
theorem ag_ok {R : Rl} (hR : RightP R) {i : Nat} (hi : i < R.len) : isT (R.ag i) = true := (hR.2.2.2.1 i hi).2.1
theorem endF_bd (t s : Int) (ht : isT t = true) (hs : isS s = true) : t < endF t s ∧ endF t s ≤ 2199023255552 := by
  have h1 := (isT_iff t).1 ht
  have h2 := (isS_iff s).1 hs
  have := mod_bd t s h1.1 h2.1
  unfold endF; omega
end Go.Proofs.Ytbadjigfcncfcaa

/- The contract of grain's stepAt. -/
namespace Go.Proofs.Ytbadjigfcncfcaa
open Go.RowKit

set_option maxRecDepth 100000 in
set_option maxHeartbeats 1000000 in
theorem stepAt_any (R : Rl) (hR : RightP R) (t wm : Int) (ht : isT t = true) (hw : isT wm = true) (K : Nat) (hK : IsStep R t wm K) (w : World) (hL : Lies R w.heap.size w) :
    Calls Try.prog 72 #[.slice R.a R.len R.cap, .int .i64 t, .int .i64 wm] w fun e w' => e = .returned (.int .i64 K) ∧ Below w.heap.size w w' := by
  obtain ⟨hm, _, hc⟩ := hL
  rcases hc with hc | ⟨b, off, ha, hbN, hc⟩
  · exact absurd hR.1 (by omega)
  rw [ha]
  have hl4 := hR.2.1
  have HR : Hid _ := hR
  have HKS : Hid _ := hK
  have HT : Hid _ := ht
  obtain ⟨t1, t2⟩ := (isT_iff t).1 ht
  obtain ⟨w1, w2⟩ := (isT_iff wm).1 hw
  clear hR hK ht hw
  go_enter Try.func72, Try.ntmps72
  go_wp2_with fail
  go_step3
  go_wp2_with fail
  go_step3
  go_wp2_with fail
  go_loopw [7, 12] (fun f i wr => ∃ k : Nat, k ≤ R.len ∧ f = .int .i64 ((k - 1 : Nat) : Int) ∧ i = .int .i64 k ∧ (∀ j, j < k → cnd R t wm j) ∧ Below w.heap.size w wr) (fun _ i _ => R.len - (intOf i).toNat)
  case atStart =>
    exact ⟨0, by omega, rfl, rfl, fun j hj => by omega, Below.refl _ _⟩
  case round =>
    obtain ⟨k, hk, rfl, rfl, hok, hbel⟩ := hrel
    by_cases hlt : k < R.len
    · have q0 : wr.cell? ⟨b, off + k * 2, none⟩ = some (.int .i64 (R.sz k)) := (hbel.cell (p := ⟨b, off + k * 2, none⟩) hbN).trans (hc k hlt).1
      have q1 : wr.cell? ⟨b, off + k * 2 + 1, none⟩ = some (.int .i64 (R.ag k)) := (hbel.cell (p := ⟨b, off + k * 2 + 1, none⟩) hbN).trans (hc k hlt).2
      have hki : ((k : Int) < (R.len : Int)) := by omega
      have HS : Hid _ := sz_ok HR.out hlt
      have hag := (isT_iff _).1 (ag_ok HR.out hlt)
      have HB : Hid (Below w.heap.size w wr) := hbel
      have HO : Hid (∀ j, j < k → cnd R t wm j) := hok
      have hsz := hbel.size
      have hwr : IntKind.i64.wrap (wm - R.ag k) = wm - R.ag k := by rw [IntKind.wrap_i64]; omega
      clear hbel hc hok hag
      by_cases hcn : cnd R t wm k
      · have hd : decide (endF t (R.sz k) ≤ wm - R.ag k) = true := by simpa [cnd] using hcn
        have HCN : Hid _ := hcn
        clear hcn
        go_wp2_with fail
        go_region_held3 (fun w' => w'.cell? ⟨wr.heap.size, 0, none⟩ = some (.int .i64 (R.sz k)) ∧ w'.cell? ⟨wr.heap.size, 1, none⟩ = some (.int .i64 (R.ag k)) ∧ Below w.heap.size w w') (first | exact ⟨by simp [go_sem], by simp [go_sem], (HB.out.alloc hsz _).drew⟩ | assumption) (first | (go_at_call 38; refine (end_any t (R.sz k) HT.out HS.out _).mono ?_; rintro e w' ⟨rfl, rfl⟩))
        rename_i HZ
        go_wp2_with fail
        go_roundw
        case rel =>
          refine ⟨k + 1, by omega, by simp, by go_num, fun j hj => ?_, HZ.2.2⟩
          rcases Nat.lt_or_ge j k with h | h
          · exact HO.out j h
          · have : j = k := by omega
            subst this; exact HCN.out
        case measure => simp [intOf]; omega
      · have hd : decide (endF t (R.sz k) ≤ wm - R.ag k) = false := by simpa [cnd] using hcn
        have HE : Hid (k - 1 = K) := (isStep_break HR.out HT.out hlt HO.out hcn).uniq HKS.out
        clear hcn
        go_wp2_with fail
        go_region_held3 (fun w' => w'.cell? ⟨wr.heap.size, 0, none⟩ = some (.int .i64 (R.sz k)) ∧ w'.cell? ⟨wr.heap.size, 1, none⟩ = some (.int .i64 (R.ag k)) ∧ Below w.heap.size w w') (first | exact ⟨by simp [go_sem], by simp [go_sem], (HB.out.alloc hsz _).drew⟩ | assumption) (first | (go_at_call 38; refine (end_any t (R.sz k) HT.out HS.out _).mono ?_; rintro e w' ⟨rfl, rfl⟩))
        rename_i HZ
        go_wp2_with fail
        rw [Exit.noGoto_ret]
        go_ret
        exact ⟨by rw [HE.out]; rfl, HZ.2.2⟩
    · have hke : k = R.len := by omega
      subst hke
      have HE : Hid (R.len - 1 = K) := (isStep_all HR.out hok).uniq HKS.out
      have HB : Hid (Below w.heap.size w wr) := hbel
      clear hc hok hbel
      go_wp2_with fail
      rw [Exit.noGoto_ret]
      go_ret
      exact ⟨by rw [HE.out]; rfl, HB.out⟩
end Go.Proofs.Ytbadjigfcncfcaa

/- The contracts of grain's fault, Step, Bucket, Expired and End. -/
namespace Go.Proofs.Ytbadjigfcncfcaa
open Go.RowKit

theorem Lies.at {R : Rl} {N : Nat} {w w' : World} (h : Lies R N w) (hb : Below N w w') : Lies R w'.heap.size w' := by
  obtain ⟨h0, h1, h2⟩ := h.below hb (Nat.le_refl _)
  refine ⟨h0, Nat.le_refl _, ?_⟩
  rcases h2 with h | ⟨b, off, ha, hbN, hc⟩
  · exact .inl h
  · exact .inr ⟨b, off, ha, by omega, hc⟩
theorem new_below (w : World) (o : Obj) : Below w.heap.size w (w.alloc o) := (Below.refl _ _).alloc (Nat.le_refl _) o

/-- What is wrong with rules, a time and a watermark. -/
def fE (R : Rl) (t w : Int) : Int := if RightP R then (if isT t && isT w then 0 else 1) else 30
theorem fE_ok {R : Rl} {t w : Int} (h : fE R t w = 0) : RightP R ∧ isT t = true ∧ isT w = true := by
  unfold fE at h
  split at h
  · rename_i hR
    split at h
    · rename_i ht
      simp at ht; exact ⟨hR, ht⟩
    · omega
  · omega
theorem fE_of {R : Rl} {t w : Int} (hR : RightP R) (ht : isT t = true) (hw : isT w = true) : fE R t w = 0 := by
  unfold fE; rw [if_pos hR, ht, hw]; rfl
set_option maxRecDepth 100000 in
set_option maxHeartbeats 1000000 in
theorem fault_any (R : Rl) (t wm : Int) (w : World) (hL : Lies R w.heap.size w) :
    Calls Try.prog 37 #[.agg #[.slice R.a R.len R.cap, .int .i64 R.kp], .int .i64 t, .int .i64 wm] w fun e w' => e = .returned (.int .i64 (fE R t wm)) ∧ Below w.heap.size w w' := by
  have HL : Hid (Lies R w.heap.size w) := hL
  clear hL
  unfold fE
  by_cases hR : RightP R
  · rw [if_pos hR]
    have hd : decide (RightP R) = true := by simpa using hR
    clear hR
    cases ht : isT t
    · go_enter Try.func37, Try.ntmps37
      go_wp2_with fail
      refine (right_anyG R _ (HL.out.at (new_below _ _))).mono ?_
      rw [hd]
      rintro e w1 ⟨rfl, hb1⟩
      have HB1 : Hid (Below w.heap.size w w1) := (new_below _ _).trans (hb1.mono (by simp))
      clear hb1 hd
      go_wp2_with fail
      refine (isTime_any t _).mono ?_
      rw [ht]
      rintro e w' ⟨rfl, rfl⟩
      clear ht
      go_wp2_with fail
      go_ret
      exact ⟨rfl, HB1.out⟩
    · cases hw : isT wm
      · go_enter Try.func37, Try.ntmps37
        go_wp2_with fail
        refine (right_anyG R _ (HL.out.at (new_below _ _))).mono ?_
        rw [hd]
        rintro e w1 ⟨rfl, hb1⟩
        have HB1 : Hid (Below w.heap.size w w1) := (new_below _ _).trans (hb1.mono (by simp))
        clear hb1 hd
        go_wp2_with fail
        refine (isTime_any t _).mono ?_
        rw [ht]
        rintro e w' ⟨rfl, rfl⟩
        clear ht
        go_wp2_with fail
        refine (isTime_any wm _).mono ?_
        rw [hw]
        rintro e w' ⟨rfl, rfl⟩
        clear hw
        go_wp2_with fail
        go_ret
        exact ⟨rfl, HB1.out⟩
      · go_enter Try.func37, Try.ntmps37
        go_wp2_with fail
        refine (right_anyG R _ (HL.out.at (new_below _ _))).mono ?_
        rw [hd]
        rintro e w1 ⟨rfl, hb1⟩
        have HB1 : Hid (Below w.heap.size w w1) := (new_below _ _).trans (hb1.mono (by simp))
        clear hb1 hd
        go_wp2_with fail
        refine (isTime_any t _).mono ?_
        rw [ht]
        rintro e w' ⟨rfl, rfl⟩
        clear ht
        go_wp2_with fail
        refine (isTime_any wm _).mono ?_
        rw [hw]
        rintro e w' ⟨rfl, rfl⟩
        clear hw
        go_wp2_with fail
        go_ret
        exact ⟨rfl, HB1.out⟩
  · rw [if_neg hR]
    have hd : decide (RightP R) = false := by simpa using hR
    clear hR
    go_enter Try.func37, Try.ntmps37
    go_wp2_with fail
    refine (right_anyG R _ (HL.out.at (new_below _ _))).mono ?_
    rw [hd]
    rintro e w1 ⟨rfl, hb1⟩
    have HB1 : Hid (Below w.heap.size w w1) := (new_below _ _).trans (hb1.mono (by simp))
    clear hb1 hd
    go_wp2_with fail
    go_ret
    exact ⟨rfl, HB1.out⟩

/-- What Step tells. -/
def stA (R : Rl) (t w : Int) (K : Nat) : Int := if fE R t w = 0 then (K : Int) else 0
set_option maxRecDepth 100000 in
set_option maxHeartbeats 1000000 in
theorem step_any (R : Rl) (t wm : Int) (K : Nat) (hK : fE R t wm = 0 → IsStep R t wm K) (w : World) (hL : Lies R w.heap.size w) :
    Calls Try.prog 52 #[.agg #[.slice R.a R.len R.cap, .int .i64 R.kp], .int .i64 t, .int .i64 wm] w fun e w' => e = .returned (.tuple #[.int .i64 (stA R t wm K), .int .i64 (fE R t wm)]) ∧ Below w.heap.size w w' := by
  have HL : Hid (Lies R w.heap.size w) := hL
  clear hL
  unfold stA
  by_cases h0 : fE R t wm = 0
  · rw [if_pos h0, h0]
    have HK : Hid (IsStep R t wm K) := hK h0
    have HF : Hid (RightP R ∧ isT t = true ∧ isT wm = true) := fE_ok h0
    clear hK
    have H0 : Hid _ := h0
    clear h0
    go_enter Try.func52, Try.ntmps52
    go_wp2_with fail
    refine (fault_any R t wm _ (HL.out.at (new_below _ _))).mono ?_
    rw [H0.out]
    rintro e w1 ⟨rfl, hb1⟩
    have HB1 : Hid (Below w.heap.size w w1) := (new_below _ _).trans (hb1.mono (by simp))
    obtain ⟨_, c0, c1⟩ := (RBox.new R w _).below hb1
    clear hb1
    go_wp2_with fail
    refine (stepAt_any R HF.out.1 t wm HF.out.2.1 HF.out.2.2 K HK.out _ (HL.out.at HB1.out)).mono ?_
    rintro e w2 ⟨rfl, hb2⟩
    have HB2 : Hid (Below w.heap.size w w2) := HB1.out.trans (hb2.mono HB1.out.size)
    clear hb2 c0 c1
    go_wp2_with fail
    go_ret2
    exact ⟨rfl, HB2.out⟩
  · rw [if_neg h0]
    have hne : (fE R t wm == 0) = false := by simpa using h0
    have hne2 : (fE R t wm != 0) = true := by simpa using h0
    clear hK h0
    go_enter Try.func52, Try.ntmps52
    go_wp2_with fail
    refine (fault_any R t wm _ (HL.out.at (new_below _ _))).mono ?_
    rintro e w1 ⟨rfl, hb1⟩
    have HB1 : Hid (Below w.heap.size w w1) := (new_below _ _).trans (hb1.mono (by simp))
    clear hb1
    go_wp2_with fail
    go_ret2
    exact ⟨rfl, HB1.out⟩

theorem row_cells {R : Rl} {w : World} (hR : RightP R) (hL : Lies R w.heap.size w) {k : Nat} (hk : k < R.len) : ∃ b off, R.a = some ⟨b, off, none⟩ ∧ w.cell? ⟨b, off + k * 2, none⟩ = some (.int .i64 (R.sz k)) ∧ w.cell? ⟨b, off + k * 2 + 1, none⟩ = some (.int .i64 (R.ag k)) := by
  obtain ⟨_, _, hc⟩ := hL
  rcases hc with hc | ⟨b, off, ha, _, hc⟩
  · have := hR.1; omega
  · exact ⟨b, off, ha, (hc k hk).1, (hc k hk).2⟩

/-- Where Bucket tells that it begins. -/
def buA (R : Rl) (t w : Int) (K : Nat) : Int := if fE R t w = 0 then t - t % R.sz K else 0
/-- Whether Expired tells that it is. -/
def exA (R : Rl) (t w : Int) : Bool := if fE R t w = 0 then decide (endF t (R.sz (R.len - 1)) ≤ w - R.kp) else false
set_option maxRecDepth 100000 in
set_option maxHeartbeats 1000000 in
theorem expired_any (R : Rl) (t wm : Int) (w : World) (hL : Lies R w.heap.size w) :
    Calls Try.prog 20 #[.agg #[.slice R.a R.len R.cap, .int .i64 R.kp], .int .i64 t, .int .i64 wm] w fun e w' => e = .returned (.tuple #[.bool (exA R t wm), .int .i64 (fE R t wm)]) ∧ Below w.heap.size w w' := by
  have HL : Hid (Lies R w.heap.size w) := hL
  clear hL
  unfold exA
  by_cases h0 : fE R t wm = 0
  · rw [if_pos h0, h0]
    have HF : Hid (RightP R ∧ isT t = true ∧ isT wm = true) := fE_ok h0
    have H0 : Hid (fE R t wm = 0) := h0
    clear h0
    obtain ⟨m, hm⟩ : ∃ m, R.len = m + 1 := ⟨R.len - 1, by have := HF.out.1.1; omega⟩
    have em : R.len - 1 = m := by omega
    rw [em]
    have hle := HF.out.1.2.1
    have hkp1 := HF.out.1.2.2.2.2.1
    have hkp2 := HF.out.1.2.2.2.2.2
    have hag := (isT_iff _).1 (ag_ok HF.out.1 (i := R.len - 1) (by omega))
    have hwm := (isT_iff _).1 HF.out.2.2
    have hwk : IntKind.i64.wrap (wm - R.kp) = wm - R.kp := by rw [IntKind.wrap_i64]; omega
    have hwl : IntKind.i64.wrap ((R.len : Int) - 1) = (m : Int) := by rw [IntKind.wrap_i64]; omega
    have i0 : (0 : Int) ≤ (m : Int) := by omega
    have i1 : (m : Int) < (R.len : Int) := by omega
    have HM : Hid (m < R.len) := by unfold Hid; omega
    clear hkp1 hkp2 hag hwm hm em hle
    go_enter Try.func20, Try.ntmps20
    go_wp2_with fail
    refine (fault_any R t wm _ (HL.out.at (new_below _ _))).mono ?_
    rw [H0.out]
    rintro e w1 ⟨rfl, hb1⟩
    have HB1 : Hid (Below w.heap.size w w1) := (new_below _ _).trans (hb1.mono (by simp))
    have HX1 : Hid (RBox R w.heap.size w1) := (RBox.new R w _).below hb1
    have HL1 : Hid (Lies R w1.heap.size w1) := HL.out.at HB1.out
    obtain ⟨_, c0, c1⟩ := HX1.out
    obtain ⟨b, off, ha, d0, d1⟩ := row_cells HF.out.1 HL1.out HM.out
    rw [ha] at c0
    clear hb1
    go_wp2_with fail
    have HBa : Hid (Below w.heap.size w (w1.alloc (.cells #[.int .i64 (R.sz m), .int .i64 (R.ag m)] 86))) := HB1.out.alloc HB1.out.size _
    have c1' : (w1.alloc (.cells #[.int .i64 (R.sz m), .int .i64 (R.ag m)] 86)).cell? ⟨w.heap.size, 1, none⟩ = some (.int .i64 R.kp) := ((new_below w1 _).cell (p := ⟨w.heap.size, 1, none⟩) HX1.out.1).trans c1
    go_region_held3 (fun w' => w'.cell? ⟨w1.heap.size, 0, none⟩ = some (.int .i64 (R.sz m)) ∧ w'.cell? ⟨w.heap.size, 1, none⟩ = some (.int .i64 R.kp) ∧ Below w.heap.size w w') (first | exact ⟨by simp [go_sem], c1', HBa.out.drew⟩ | assumption) (first | (go_at_call 38; refine (end_any t (R.sz m) HF.out.2.1 (sz_ok HF.out.1 HM.out) _).mono ?_; rintro e w' ⟨rfl, rfl⟩))
    rename_i HZ
    clear c0 c1 c1' d0 d1
    go_wp2_with fail
    go_ret2
    exact ⟨rfl, HZ.2.2⟩
  · rw [if_neg h0]
    have hne : (fE R t wm == 0) = false := by simpa using h0
    have hne2 : (fE R t wm != 0) = true := by simpa using h0
    clear h0
    go_enter Try.func20, Try.ntmps20
    go_wp2_with fail
    refine (fault_any R t wm _ (HL.out.at (new_below _ _))).mono ?_
    rintro e w1 ⟨rfl, hb1⟩
    have HB1 : Hid (Below w.heap.size w w1) := (new_below _ _).trans (hb1.mono (by simp))
    clear hb1
    go_wp2_with fail
    go_ret2
    exact ⟨rfl, HB1.out⟩

/-- What End tells. -/
def enE (R : Rl) (t s : Int) : Int := if RightP R then (if isT t && decide (0 ≤ s) && decide (s < R.len) then 0 else 1) else 30
def enA (R : Rl) (t s : Int) : Int := if enE R t s = 0 then endF t (R.sz s.toNat) else 0
theorem enE_ok {R : Rl} {t s : Int} (h : enE R t s = 0) : RightP R ∧ isT t = true ∧ 0 ≤ s ∧ s < R.len := by
  unfold enE at h
  split at h
  · rename_i hR
    split at h
    · rename_i ht
      simp at ht; exact ⟨hR, ht.1.1, ht.1.2, ht.2⟩
    · omega
  · omega
theorem enE_of {R : Rl} {t : Int} {s : Nat} (hR : RightP R) (ht : isT t = true) (hs : s < R.len) : enE R t s = 0 := by
  unfold enE; rw [if_pos hR, ht]; simp; omega
theorem enA_of {R : Rl} {t : Int} {s : Nat} (hR : RightP R) (ht : isT t = true) (hs : s < R.len) : enA R t s = endF t (R.sz s) := by
  unfold enA; rw [if_pos (enE_of hR ht hs)]; rfl
end Go.Proofs.Ytbadjigfcncfcaa

/- What the fixed calls of layer 3's 'alive' come to: true. -/
namespace Go.Proofs.Ytbadjigfcncfcaa
open Go.RowKit

def sz0 : Nat → Int | 0 => 1 | 1 => 10 | _ => 60
def ag0 : Nat → Int | 0 => 0 | 1 => 20 | _ => 100
def rl0 (b : Nat) : Rl := ⟨some ⟨b, 0, none⟩, 3, 3, sz0, ag0, 200⟩
def rlN : Rl := ⟨none, 0, 0, fun _ => 0, fun _ => 0, 0⟩
theorem right0 (b : Nat) : RightP (rl0 b) := by
  refine ⟨by show (1 : Nat) ≤ 3; omega, by show (3 : Nat) ≤ 4; omega, rfl, ?_, by show (100 : Int) ≤ 200; decide, by show (200 : Int) ≤ 2199023255552; decide⟩
  intro i hi
  have hi' : i < 3 := hi
  match i, hi' with
  | 0, _ => exact ⟨by show isS 1 = true; decide, by show isT 0 = true; decide, fun h => by omega⟩
  | 1, _ => exact ⟨by show isS 10 = true; decide, by show isT 20 = true; decide, fun _ => by show folB 1 0 10 20 = true; decide⟩
  | 2, _ => exact ⟨by show isS 60 = true; decide, by show isT 100 = true; decide, fun _ => by show folB 10 20 60 100 = true; decide⟩
theorem fE0 (b : Nat) (t w : Int) (ht : isT t = true) (hw : isT w = true) : fE (rl0 b) t w = 0 := fE_of (right0 b) ht hw
theorem step0 (b : Nat) : IsStep (rl0 b) 75 100 1 := by
  refine ⟨by show (1 : Nat) < 3; omega, .inr (by show endF 75 10 ≤ 100 - 20; decide), ?_⟩
  intro j h1 h2
  have h2' : j < 3 := h2
  have : j = 2 := by omega
  subst this
  show ¬ endF 75 60 ≤ 100 - 100
  decide
theorem fEN (t w : Int) : fE rlN t w = 30 := by
  unfold fE; rw [if_neg]; rintro ⟨h, _⟩; exact absurd (show (1 : Nat) ≤ 0 from h) (by omega)
theorem rlN_lies (w : World) : Lies rlN w.heap.size w := ⟨Nat.zero_le _, Nat.le_refl _, .inl rfl⟩


theorem expired0 (b : Nat) (t : Int) (ht : isT t = true) (r : Bool) (hr : decide (endF t 60 ≤ 260 - 200) = r) (w : World) (hL : Lies (rl0 b) w.heap.size w) : Calls Try.prog 20 #[.agg #[.slice (some ⟨b, 0, none⟩) 3 3, .int .i64 200], .int .i64 t, .int .i64 260] w fun e w' => e = .returned (.tuple #[.bool r, .int .i64 0]) ∧ Below w.heap.size w w' := by
  have h := expired_any (rl0 b) t 260 w hL
  have e1 : exA (rl0 b) t 260 = r := by unfold exA; rw [if_pos (fE0 b _ _ ht (by decide))]; exact hr
  rw [e1, fE0 b _ _ ht (by decide)] at h
  exact h
theorem stepN (w : World) : Calls Try.prog 52 #[.agg #[.slice none 0 0, .int .i64 0], .int .i64 0, .int .i64 0] w fun e w' => e = .returned (.tuple #[.int .i64 0, .int .i64 30]) ∧ Below w.heap.size w w' := by
  have h := step_any rlN 0 0 0 (fun h => by rw [fEN] at h; omega) w (rlN_lies w)
  have e1 : stA rlN 0 0 0 = 0 := by unfold stA; rw [if_neg (by rw [fEN]; omega)]
  rw [e1, fEN] at h
  exact h
theorem right0c (b : Nat) (w : World) (hL : Lies (rl0 b) w.heap.size w) : Calls Try.prog 31 #[.agg #[.slice (some ⟨b, 0, none⟩) 3 3, .int .i64 200]] w fun e w' => e = .returned (.bool true) ∧ Below w.heap.size w w' := by
  have h := right_anyG (rl0 b) w hL
  have e1 : decide (RightP (rl0 b)) = true := by simpa using right0 b
  rw [e1] at h
  exact h
theorem lies0 (w : World) (t1 t2 : TypeId) (o : Array Value) : Lies (rl0 w.heap.size) ((w.alloc (.cells #[.int .i64 1, .int .i64 0, .int .i64 10, .int .i64 20, .int .i64 60, .int .i64 100] t1)).alloc (.cells o t2)).heap.size ((w.alloc (.cells #[.int .i64 1, .int .i64 0, .int .i64 10, .int .i64 20, .int .i64 60, .int .i64 100] t1)).alloc (.cells o t2)) := by
  refine ⟨by show 3 ≤ maxLen; decide, Nat.le_refl _, .inr ⟨w.heap.size, 0, rfl, by simp; omega, ?_⟩⟩
  intro i hi
  have hi' : i < 3 := hi
  match i, hi' with
  | 0, _ => simp [go_sem, rl0, sz0, ag0, World.cell?_alloc_past]
  | 1, _ => simp [go_sem, rl0, sz0, ag0, World.cell?_alloc_past]
  | 2, _ => simp [go_sem, rl0, sz0, ag0, World.cell?_alloc_past]

theorem row_b {R : Rl} {w : World} {N : Nat} (hR : RightP R) (hL : Lies R N w) : ∃ b off, R.a = some ⟨b, off, none⟩ := by
  obtain ⟨_, _, hc⟩ := hL
  rcases hc with hc | ⟨b, off, ha, _, hc⟩
  · have := hR.1; omega
  · exact ⟨b, off, ha⟩
theorem row_at {R : Rl} {w : World} {N b off : Nat} (ha : R.a = some ⟨b, off, none⟩) (hL : Lies R N w) {k : Nat} (hk : k < R.len) : w.cell? ⟨b, off + k * 2, none⟩ = some (.int .i64 (R.sz k)) ∧ w.cell? ⟨b, off + k * 2 + 1, none⟩ = some (.int .i64 (R.ag k)) := by
  obtain ⟨_, _, hc⟩ := hL
  rcases hc with hc | ⟨b', off', ha', _, hc⟩
  · omega
  · rw [ha] at ha'
    obtain ⟨rfl, rfl⟩ : b = b' ∧ off = off' := by simp at ha'; exact ha'
    exact hc k hk
theorem floorV_ok {t s : Int} (ht : isT t = true) (hs : isS s = true) : floorV t s = .tuple #[.int .i64 (t - t % s), .int .i64 0] := by
  unfold floorV; rw [ht, hs]; rfl
theorem floorV_no {t s : Int} (ht : isT t = false) : floorV t s = .tuple #[.int .i64 0, .int .i64 1] := by
  unfold floorV; rw [ht]; rfl
end Go.Proofs.Ytbadjigfcncfcaa

/- Plain arithmetic: times of one bucket. -/
namespace Go.Proofs.Ytbadjigfcncfcaa
open Go.RowKit

theorem fl_eq (t s : Int) : t - t % s = s * (t / s) := by have := Int.emod_add_mul_ediv t s; omega
theorem endF_quot (t s : Int) : endF t s = s * (t / s) + s := by unfold endF; rw [fl_eq]
theorem quot_up {t u s S : Int} (h1 : 1 ≤ s) (hd : S % s = 0) (h : t / s = u / s) : t / S = u / S := by
  obtain ⟨c, hc⟩ := Int.dvd_of_emod_eq_zero hd
  rw [hc, ← Int.ediv_ediv_of_nonneg (by omega), ← Int.ediv_ediv_of_nonneg (by omega), h]
theorem quot_all {R : Rl} (hR : RightP R) {t u : Int} {K : Nat} (h : t / R.sz K = u / R.sz K) : ∀ d, K + d < R.len → t / R.sz (K + d) = u / R.sz (K + d) := by
  intro d
  induction d with
  | zero => intro _; exact h
  | succ d ih =>
    intro hd
    obtain ⟨f1, f2, f3, _⟩ := fol_facts hR (j := K + d) (by omega)
    exact quot_up f1 f3 (ih (by omega))
theorem quot_ge {R : Rl} (hR : RightP R) {t u : Int} {K : Nat} (h : t / R.sz K = u / R.sz K) {j : Nat} (hj : K ≤ j) (hl : j < R.len) : t / R.sz j = u / R.sz j := by
  have := quot_all hR h (j - K) (by omega)
  rw [show K + (j - K) = j by omega] at this
  exact this
theorem end_same {R : Rl} (hR : RightP R) {t u : Int} {K : Nat} (h : t / R.sz K = u / R.sz K) {j : Nat} (hj : K ≤ j) (hl : j < R.len) : endF t (R.sz j) = endF u (R.sz j) := by
  rw [endF_quot, endF_quot, quot_ge hR h hj hl]
theorem step_same {R : Rl} (hR : RightP R) {t u w : Int} {K : Nat} (hK : IsStep R t w K) (h : t / R.sz K = u / R.sz K) : IsStep R u w K := by
  refine ⟨hK.1, ?_, fun j h1 h2 hc => hK.2.2 j h1 h2 ?_⟩
  · rcases hK.2.1 with h0 | h0
    · exact .inl h0
    · right; unfold cnd at *; rw [← end_same hR h (Nat.le_refl _) hK.1]; exact h0
  · unfold cnd at *; rw [end_same hR h (by omega) h2]; exact hc
theorem in_bucket {t s y : Int} (h1 : 1 ≤ s) (y1 : 0 ≤ y) (y2 : y < s) : (t - t % s + y) / s = t / s := by
  rw [fl_eq, Int.mul_comm, Int.add_comm, Int.add_mul_ediv_right _ _ (by omega), Int.ediv_eq_zero_of_lt y1 y2]; omega
theorem fl_same {t u s : Int} (h : t / s = u / s) : t - t % s = u - u % s := by rw [fl_eq, fl_eq, h]
theorem quot_of_fl {t u s : Int} (h1 : 1 ≤ s) (h : t - t % s = u - u % s) : t / s = u / s := by
  rw [fl_eq, fl_eq] at h
  exact Int.eq_of_mul_eq_mul_left (by omega) h
end Go.Proofs.Ytbadjigfcncfcaa

/- Texts that a slice reads, whoever made it; keys as arguments. -/
namespace Go.Proofs.Ytbadjigfcncfcaa
open Go.ChangeShapes Go.WideShapes Go.ChangeAt Go.RowKit Go.Joins

/-- A slice value reads these texts. -/
def SReads (w : World) (v : Value) (L : List ByteArray) : Prop :=
  (L = [] ∧ ∃ a cap, v = .slice a 0 cap ∧ (a = none → cap = 0)) ∨
  ∃ b off cap, v = .slice (some ⟨b, off, none⟩) L.length cap ∧ 0 < L.length ∧ L.length ≤ cap ∧ cap ≤ maxLen ∧ b < w.heap.size ∧ (∀ j (h : j < L.length), w.cell? ⟨b, off + j, none⟩ = some (.string L[j])) ∧ ∀ s ∈ L, s.size ≤ maxLen
theorem SReads.below {w w' : World} {v : Value} {L : List ByteArray} (h : SReads w v L) (hb : Below w.heap.size w w') : SReads w' v L := by
  rcases h with h | ⟨b, off, cap, h1, h2, h3, h4, h5, h6, h7⟩
  · exact .inl h
  · have := hb.size
    exact .inr ⟨b, off, cap, h1, h2, h3, h4, by omega, fun j hj => (hb.cell (p := ⟨b, off + j, none⟩) h5).trans (h6 j hj), h7⟩
theorem SReads.form {w : World} {v : Value} {L : List ByteArray} (h : SReads w v L) : ∃ a cap, v = .slice a L.length cap ∧ L.length ≤ maxLen := by
  rcases h with ⟨rfl, a, cap, h, _⟩ | ⟨b, off, cap, h1, h2, h3, h4, h5, h6, h7⟩
  · exact ⟨a, cap, h, by simp⟩
  · exact ⟨_, cap, h1, by omega⟩
theorem SReads.at {w : World} {a : Option Addr} {n cap : Nat} {L : List ByteArray} (h : SReads w (.slice a n cap) L) (j : Nat) (hj : j < L.length) : ∃ b off, a = some ⟨b, off, none⟩ ∧ b < w.heap.size ∧ w.cell? ⟨b, off + j, none⟩ = some (.string L[j]) := by
  rcases h with ⟨rfl, _⟩ | ⟨b, off, cap', hv, h2, h3, h4, h5, h6, h7⟩
  · simp at hj
  · simp at hv
    exact ⟨b, off, hv.1, h5, h6 j hj⟩
theorem SReads.size {w : World} {v : Value} {L : List ByteArray} (h : SReads w v L) : ∀ s ∈ L, s.size ≤ maxLen := by
  rcases h with ⟨rfl, _⟩ | ⟨_, _, _, _, _, _, _, _, _, h7⟩
  · intro s hs; simp at hs
  · exact h7
theorem openS' {H : Type} {enc : TypeId × Value → H} {W : World} {base : Nat} {spare : Nat → Bool} {held : Bool} {v : Value} {x : DataW H × List MemPlace} {fuel : Nat}
    (h : DataW.trod enc Try.prog W base spare held fuel 45 [v] = some x) : ∃ L : List ByteArray, SReads W v L := by
  rcases open_strings Try.underlying45 Try.underlying9 (by kernel_rfl) h with ⟨hcs, _⟩ | ⟨a, len, cap, ss, hcs, _, hl, hm, hz, _, hcell, hwz⟩
  · simp at hcs
    subst hcs
    exact ⟨[], .inl ⟨rfl, _, _, rfl, fun _ => rfl⟩⟩
  · simp at hcs
    subst hcs
    have hzl : len ≤ ss.length := by rw [hz]; split <;> omega
    rcases Nat.eq_zero_or_pos len with h0 | h0
    · subst h0; exact ⟨[], .inl ⟨rfl, _, _, rfl, fun h => by cases h⟩⟩
    · have hlen : (ss.take len).length = len := by simp; omega
      have c0 := hcell 0 (by omega)
      have e0 : a.add 0 = a := by simp [Addr.add]
      rw [e0] at c0
      obtain ⟨hb, hs⟩ := cell_block c0
      obtain ⟨b, off, spot⟩ := a
      simp only at hb hs
      subst hs
      refine ⟨ss.take len, .inr ⟨b, off, cap, by rw [hlen], by omega, by omega, hm, hb, fun j hj => ?_, fun s hs => hwz s (List.mem_of_mem_take hs)⟩⟩
      have hj' : j < len := by omega
      have cj := hcell j (by omega)
      have ea : (⟨b, off, none⟩ : Addr).add j = ⟨b, off + j, none⟩ := by simp [Addr.add]
      rw [ea] at cj
      rw [cj]
      have hzj : j < ss.length := by omega
      simp [List.getD, hzj]
set_option maxRecDepth 100000 in
theorem openS {H : Type} {enc : TypeId × Value → H} {W : World} {r : Reach} {b0 base : Nat} {spare : Nat → Bool} {held : Bool} {v : Value} {d : DataW H} {p : List MemPlace}
    (hv : Value.okWide Try.prog W r b0 45 v) (h : DataW.Trod enc Try.prog W base spare held 45 v d p) : ∃ L : List ByteArray, SReads W v L := by
  obtain ⟨a, len, cap, rfl⟩ := okWide_slice Try.underlying45 hv
  obtain ⟨fuel, hf⟩ := h
  exact openS' (fuel := fuel) (by simpa [Value.cells] using hf)
/-- A key: its dimensions' slice, when it begins, how coarse it is. -/
structure Ky where
  v : Value
  L : List ByteArray
  f : Int
  g : Int
def Ky.val (k : Ky) : Value := .agg #[k.v, .int .i64 k.f, .int .i64 k.g]
/-- It lies there. -/
structure KLies (k : Ky) (w : World) : Prop where
  r : SReads w k.v k.L
  f1 : -9223372036854775808 ≤ k.f
  f2 : k.f ≤ 9223372036854775807
  g1 : -9223372036854775808 ≤ k.g
  g2 : k.g ≤ 9223372036854775807
theorem KLies.below {k : Ky} {w w' : World} (h : KLies k w) (hb : Below w.heap.size w w') : KLies k w' := ⟨h.r.below hb, h.f1, h.f2, h.g1, h.g2⟩
set_option maxRecDepth 100000 in
theorem openK {H : Type} {enc : TypeId × Value → H} {W : World} {r : Reach} {b0 base : Nat} {spare : Nat → Bool} {held : Bool} {v : Value} {d : DataW H} {p : List MemPlace}
    (hv : Value.okWide Try.prog W r b0 73 v) (h : DataW.Trod enc Try.prog W base spare held 73 v d p) :
    ∃ k : Ky, v = k.val ∧ KLies k W := by
  obtain ⟨v0, v1, v2, y0, y1, y2, n, rfl, _, _, h0, h1, h2⟩ := open_agg3 Try.underlying73 (by kernel_rfl) (by kernel_rfl) hv h
  obtain ⟨f, e1, _, w1⟩ := DataW.trod_int Try.underlying2 h1
  obtain ⟨g, e2, _, w2⟩ := DataW.trod_int Try.underlying3 h2
  simp at e1 e2
  subst e1 e2
  obtain ⟨L, hL⟩ := openS' h0
  have b1 := bounds_i64 w1
  have b2 := bounds_i64 w2
  exact ⟨⟨v0, L, f, g⟩, rfl, hL, b1.1, b1.2, b2.1, b2.2⟩
end Go.Proofs.Ytbadjigfcncfcaa

/- The contracts of cmp.Compare, slices.Compare and cmp.Or, as key.Less calls them. -/
namespace Go.Proofs.Ytbadjigfcncfcaa
open Go.RowKit

def cmpIK (a b : Int) : Int := if a < b then -1 else if b < a then 1 else 0
def cmpS (s t : ByteArray) : Int := if Op.bytesLess s.toList t.toList = true then -1 else if s.toList = t.toList then 0 else 1
def cmpL : List ByteArray → List ByteArray → Int
  | [], [] => 0
  | [], _ :: _ => -1
  | _ :: _, [] => 1
  | x :: a, y :: b => if cmpS x y ≠ 0 then cmpS x y else cmpL a b
theorem nan64 (x : Int) (w : World) : Calls Try.prog 88 #[.int .i64 x] w fun e w' => e = .returned (.bool false) ∧ w' = w := by
  go_enter Try.func88, Try.ntmps88
  go_wp2_with fail
  go_ret
  exact ⟨by simp, rfl⟩
theorem nanI (x : Int) (w : World) : Calls Try.prog 89 #[.int .i64 x] w fun e w' => e = .returned (.bool false) ∧ w' = w := by
  go_enter Try.func89, Try.ntmps89
  go_wp2_with fail
  go_ret
  exact ⟨by simp, rfl⟩
theorem nanS (x : ByteArray) (w : World) : Calls Try.prog 92 #[.string x] w fun e w' => e = .returned (.bool false) ∧ w' = w := by
  go_enter Try.func92, Try.ntmps92
  go_wp2_with fail
  go_ret
  exact ⟨by simp, rfl⟩
theorem ret_int {k : IntKind} {a b : Int} (h : a = b) : Ending.returned (.int k a) = .returned (.int k b) := by rw [h]
set_option maxRecDepth 100000 in
set_option maxHeartbeats 1000000 in
theorem cmp64 (x y : Int) (w : World) : Calls Try.prog 79 #[.int .i64 x, .int .i64 y] w fun e w' => e = .returned (.int .i64 (cmpIK x y)) ∧ w' = w := by
  go_enter Try.func79, Try.ntmps79
  go_wp2_with (first | (go_at_call 88; refine (nan64 _ _).mono ?_; rintro e w' ⟨rfl, rfl⟩))
  all_goals
    go_ret
    exact ⟨ret_int (by unfold cmpIK; split <;> (try split) <;> omega), rfl⟩
set_option maxRecDepth 100000 in
set_option maxHeartbeats 1000000 in
theorem cmpInt (x y : Int) (w : World) : Calls Try.prog 80 #[.int .i64 x, .int .i64 y] w fun e w' => e = .returned (.int .i64 (cmpIK x y)) ∧ w' = w := by
  go_enter Try.func80, Try.ntmps80
  go_wp2_with (first | (go_at_call 89; refine (nanI _ _).mono ?_; rintro e w' ⟨rfl, rfl⟩))
  all_goals
    go_ret
    exact ⟨ret_int (by unfold cmpIK; split <;> (try split) <;> omega), rfl⟩
set_option maxRecDepth 100000 in
set_option maxHeartbeats 1000000 in
theorem cmpStr (x y : ByteArray) (w : World) : Calls Try.prog 87 #[.string x, .string y] w fun e w' => e = .returned (.int .i64 (cmpS x y)) ∧ w' = w := by
  go_enter Try.func87, Try.ntmps87
  go_wp2_with (first | (go_at_call 92; refine (nanS _ _).mono ?_; rintro e w' ⟨rfl, rfl⟩))
  all_goals
    go_ret
    exact ⟨ret_int (by simp_all [cmpS]), rfl⟩
theorem cmpL_nil_left (b : List ByteArray) : cmpL [] b = if b.length = 0 then 0 else -1 := by cases b <;> simp [cmpL]
theorem cmpL_nil_right {a : List ByteArray} (h : 0 < a.length) : cmpL a [] = 1 := by cases a <;> simp [cmpL] at *
theorem cmpL_drop {a b : List ByteArray} {k : Nat} (ha : k < a.length) (hb : k < b.length) : cmpL (a.drop k) (b.drop k) = if cmpS a[k] b[k] ≠ 0 then cmpS a[k] b[k] else cmpL (a.drop (k + 1)) (b.drop (k + 1)) := by
  rw [List.drop_eq_getElem_cons ha, List.drop_eq_getElem_cons hb, cmpL]
set_option maxRecDepth 100000 in
set_option maxHeartbeats 1000000 in
theorem compare_any (va vb : Value) (A B : List ByteArray) (w : World) (ha : SReads w va A) (hb : SReads w vb B) :
    Calls Try.prog 78 #[va, vb] w fun e w' => e = .returned (.int .i64 (cmpL A B)) ∧ w' = w := by
  obtain ⟨aa, ca, rfl, hma⟩ := ha.form
  obtain ⟨ab, cb, rfl, hmb⟩ := hb.form
  unfold maxLen at hma hmb
  have HA : Hid (SReads w (.slice aa A.length ca) A) := ha
  have HB : Hid (SReads w (.slice ab B.length cb) B) := hb
  clear ha hb
  go_enter Try.func78, Try.ntmps78
  go_wp2_with fail
  go_loop [11] (fun i => ∃ k : Nat, k ≤ A.length ∧ k ≤ B.length ∧ i = .int .i64 k ∧ Hid (cmpL A B = cmpL (A.drop k) (B.drop k))) (fun i => A.length - (intOf i).toNat)
  case atStart => exact ⟨0, Nat.zero_le _, Nat.zero_le _, rfl, rfl⟩
  case round =>
    obtain ⟨k, hk1, hk2, rfl, HK⟩ := hrel
    by_cases hlt : k < A.length
    · obtain ⟨ba, oa, rfl, _, c1⟩ := HA.out.at k hlt
      by_cases hlt2 : k < B.length
      · obtain ⟨bb, ob, rfl, _, c2⟩ := HB.out.at k hlt2
        have HS : Hid (cmpL A B = if cmpS A[k] B[k] ≠ 0 then cmpS A[k] B[k] else cmpL (A.drop (k + 1)) (B.drop (k + 1))) := HK.out.trans (cmpL_drop hlt hlt2)
        have i1 : ¬ (B.length : Int) ≤ (k : Int) := by omega
        generalize A[k] = s at *
        generalize B[k] = t at *
        go_wp2_with fail
        refine (cmpStr s t _).mono ?_
        rintro e w' ⟨rfl, hw⟩
        subst w'
        by_cases h0 : cmpS s t = 0
        · have HS2 : Hid (cmpL A B = cmpL (A.drop (k + 1)) (B.drop (k + 1))) := by rw [HS.out, if_neg (by simpa using h0)]; rfl
          clear HS
          go_wp2_with fail
          go_round
          case rel => exact ⟨k + 1, by omega, by omega, by go_num, HS2⟩
          case measure => simp [intOf]; omega
        · have HS2 : Hid (cmpL A B = cmpS s t) := by rw [HS.out, if_pos h0]; rfl
          have i2 : (cmpS s t == 0) = false := by simpa using h0
          clear HS h0
          go_wp2_with fail
          go_ret
          exact ⟨by rw [HS2.out]; rfl, rfl⟩
      · have HS : Hid (cmpL A B = 1) := by
          unfold Hid
          rw [HK.out, List.drop_eq_nil_of_le (show B.length ≤ k by omega)]
          exact cmpL_nil_right (by simp; omega)
        have i1 : (B.length : Int) ≤ (k : Int) := by omega
        go_wp2_with fail
        go_ret
        exact ⟨by rw [HS.out]; rfl, rfl⟩
    · have HS : Hid (cmpL A B = if B.length - k = 0 then 0 else -1) := by
        unfold Hid
        rw [HK.out, List.drop_eq_nil_of_le (show A.length ≤ k by omega), cmpL_nil_left, List.length_drop]
      by_cases hl : A.length < B.length
      · have HS2 : Hid (cmpL A B = -1) := by rw [HS.out, if_neg (by omega)]; rfl
        have i1 : (A.length : Int) < (B.length : Int) := by omega
        clear HS
        go_wp2_with fail
        go_ret
        exact ⟨by rw [HS2.out]; rfl, rfl⟩
      · have HS2 : Hid (cmpL A B = 0) := by rw [HS.out, if_pos (by omega)]; rfl
        have i1 : ¬ (A.length : Int) < (B.length : Int) := by omega
        clear HS
        go_wp2_with fail
        go_ret
        exact ⟨by rw [HS2.out]; rfl, rfl⟩
/-- The first of three that is not 0. -/
def or3 (a b c : Int) : Int := if a ≠ 0 then a else if b ≠ 0 then b else c
set_option maxRecDepth 100000 in
set_option maxHeartbeats 1000000 in
theorem or_anyK (g cap : Nat) (a b c : Int) (w : World) (c0 : w.cell? ⟨g, 0, none⟩ = some (.int .i64 a)) (c1 : w.cell? ⟨g, 1, none⟩ = some (.int .i64 b)) (c2 : w.cell? ⟨g, 2, none⟩ = some (.int .i64 c)) :
    Calls Try.prog 77 #[.slice (some ⟨g, 0, none⟩) 3 cap] w fun e w' => e = .returned (.int .i64 (or3 a b c)) ∧ w' = w := by
  have HE : Hid (or3 a b c = if a ≠ 0 then a else if b ≠ 0 then b else c) := rfl
  go_enter Try.func77, Try.ntmps77
  go_wp2_with fail
  go_loop [8] (fun i => ∃ k : Nat, k ≤ 3 ∧ i = .int .i64 k ∧ Hid ((1 ≤ k → a = 0) ∧ (2 ≤ k → b = 0) ∧ (3 ≤ k → c = 0))) (fun i => 3 - (intOf i).toNat)
  case atStart => exact ⟨0, by omega, rfl, by omega, by omega, by omega⟩
  case round =>
    obtain ⟨k, hk, rfl, HK⟩ := hrel
    by_cases h3 : k < 3
    · have hk3 : k = 0 ∨ k = 1 ∨ k = 2 := by omega
      obtain ⟨x, hx, HX⟩ : ∃ x : Int, w.cell? ⟨g, k, none⟩ = some (.int .i64 x) ∧ Hid ((x ≠ 0 → or3 a b c = x) ∧ (x = 0 → (1 ≤ k + 1 → a = 0) ∧ (2 ≤ k + 1 → b = 0) ∧ (3 ≤ k + 1 → c = 0))) := by
        obtain ⟨h1, h2, h3⟩ := HK.out
        rcases hk3 with rfl | rfl | rfl
        · exact ⟨a, c0, fun h => by rw [HE.out, if_pos h], fun h => ⟨fun _ => h, by omega, by omega⟩⟩
        · have := h1 (by omega)
          exact ⟨b, c1, fun h => by rw [HE.out, if_neg (by simpa using this), if_pos h], fun h => ⟨fun _ => this, fun _ => h, by omega⟩⟩
        · have := h1 (by omega)
          have q := h2 (by omega)
          exact ⟨c, c2, fun h => by rw [HE.out, if_neg (by simpa using this), if_neg (by simpa using q)], fun h => ⟨fun _ => this, fun _ => q, fun _ => h⟩⟩
      clear hk3 c0 c1 c2 HE HK
      by_cases h0 : x = 0
      · have HY : Hid _ := HX.out.2 h0
        have i1 : (x == 0) = true := by simpa using h0
        clear HX h0
        go_wp2_with fail
        go_round
        case rel => exact ⟨k + 1, by omega, by go_num, HY⟩
        case measure => simp [intOf]; omega
      · have HY : Hid _ := HX.out.1 h0
        have i1 : (x == 0) = false := by simpa using h0
        clear HX h0
        go_wp2_with fail
        go_ret
        exact ⟨by rw [HY.out]; rfl, rfl⟩
    · have HZ : Hid (or3 a b c = 0) := by
        obtain ⟨h1, h2, h3⟩ := HK.out
        rw [HE.out, h1 (by omega), h2 (by omega), h3 (by omega)]; rfl
      clear HE HK c0 c1 c2
      go_wp2_with fail
      go_ret
      exact ⟨by rw [HZ.out]; rfl, rfl⟩
end Go.Proofs.Ytbadjigfcncfcaa
