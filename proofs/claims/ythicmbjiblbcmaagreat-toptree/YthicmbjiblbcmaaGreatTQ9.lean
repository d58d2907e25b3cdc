/- MG3 RH, joined. -/
import Derived.Test.YthicmbjiblbcmaaGreatTQ7
import Derived.Test.YthicmbjiblbcmaaGreatTQ8
/- A heap of rows in memory; which part is ahead. -/
namespace Go.Proofs.YthicmbjiblbcmaaGreat
open Go.RowKit

/-- What is left of a row, in memory: its array, where it begins there, its slice's capacity, its entries; its row's place. -/
structure Pt where
  g : Nat
  o : Nat
  cap : Nat
  xs : List Ev
  r : Nat
def ptZ : Pt := ⟨0, 0, 0, [], 0⟩
def lv (p : Pt) : Value := .slice (some ⟨p.g, p.o, none⟩) p.xs.length p.cap
def p2 (p : Pt) : List Value := [lv p, .int .i64 (p.r : Int)]
def paP (p : Pt) : Pa := (p.xs.map evE, p.r)
def lePt (p q : Pt) : Prop := ltP (paP p) (paP q)
structure PtOk (w : World) (lo hh : Nat) (p : Pt) : Prop where
  g1 : lo ≤ p.g
  g2 : p.g < hh
  n1 : 0 < p.xs.length
  n2 : p.xs.length ≤ p.cap
  n3 : p.cap ≤ maxLen
  ce : ∃ cur, w.heap[p.g]? = some (.cells cur 56) ∧ ∀ j (hj : j < p.xs.length) i (hi : i < 7), cur[p.o + (7 * j + i)]? = some ((c7 p.xs[j])[i]'hi)
  ky : ∀ x ∈ p.xs, Own w lo x.kv x.k
structure HM (w : World) (lo hh h : Nat) (P : List Pt) : Prop where
  h1 : lo ≤ h
  h2 : h < hh
  hd : ∃ v, w.heap[h]? = some (.cells #[v] 112) ∧ w.ownsRow lo 115 2 v P.length (P.flatMap p2) ∧ ∀ k, v.ownBlock = some k → k < hh
  pt : ∀ p ∈ P, PtOk w lo hh p
  nd : (P.map Pt.g).Nodup
  le : P.length ≤ 100000
/-- Blocks of cells stay. -/
def Kp (A B : World) : Prop := ∀ (k : Nat) (cs : Array Value) (t : TypeId) (fr : Nat × Nat), A.heap[k]? = some (Obj.cells cs t fr) → B.heap[k]? = some (Obj.cells cs t fr)
theorem Kp.of_below {A B : World} (h : Below A.heap.size A B) : Kp A B := fun k _ _ _ hk => (h.block k (Array.getElem?_eq_some_iff.1 hk).1).trans hk
theorem own_kp {A B : World} {base : Nat} {v : Value} {l : List UInt8} (h : Own A base v l) (hk : ∀ (k : Nat) (cs : Array Value) (fr : Nat × Nat), A.heap[k]? = some (Obj.cells cs 5 fr) → B.heap[k]? = some (Obj.cells cs 5 fr)) : Own B base v l := by
  obtain ⟨h1, h2⟩ := h
  refine ⟨h1, ?_⟩
  rcases h2 with h2 | ⟨g, cap, cur, hv, hg, hw, r⟩
  · exact .inl h2
  · exact .inr ⟨g, cap, cur, hv, hg, hk _ _ _ hw, r⟩
theorem row_kp {A B : World} {base n sz : Nat} {e : TypeId} {v : Value} {xs : List Value} (h : A.ownsRow base e sz v n xs) (hk : Kp A B) : B.ownsRow base e sz v n xs := by
  obtain ⟨h1, h2⟩ := h
  refine ⟨h1, ?_⟩
  rcases h2 with h2 | ⟨g, cap, cur, hv, hg, hw, r⟩
  · exact .inl h2
  · exact .inr ⟨g, cap, cur, hv, hg, hk _ _ _ _ hw, r⟩
theorem PtOk.kp {A B : World} {lo hh : Nat} {p : Pt} (h : PtOk A lo hh p) (hk : Kp A B) : PtOk B lo hh p := by
  obtain ⟨cur, h1, h2⟩ := h.ce
  exact ⟨h.g1, h.g2, h.n1, h.n2, h.n3, ⟨cur, hk _ _ _ _ h1, h2⟩, fun x hx => own_kp (h.ky x hx) (fun _ _ _ q => hk _ _ _ _ q)⟩
theorem HM.kp {A B : World} {lo hh h : Nat} {P : List Pt} (H : HM A lo hh h P) (hk : Kp A B) : HM B lo hh h P := by
  obtain ⟨v, h1, h2, h3⟩ := H.hd
  exact ⟨H.h1, H.h2, ⟨v, hk _ _ _ _ h1, row_kp h2 hk, h3⟩, fun p hp => (H.pt p hp).kp hk, H.nd, H.le⟩
theorem HM.below {A B : World} {lo hh h : Nat} {P : List Pt} (H : HM A lo hh h P) (hb : Below A.heap.size A B) : HM B lo hh h P := H.kp (Kp.of_below hb)
theorem flat2 : ∀ (P : List Pt) (j i : Nat) (hj : j < P.length), i < 2 → (P.flatMap p2)[2 * j + i]? = (p2 P[j])[i]?
  | [], j, i, hj, _ => by simp at hj
  | x :: xs, 0, i, _, hi => by
    rw [List.flatMap_cons, List.getElem?_append_left (by show _ < 2; omega)]; simp
  | x :: xs, j + 1, i, hj, hi => by
    rw [List.flatMap_cons, List.getElem?_append_right (by show 2 ≤ _; omega)]
    have : 2 * (j + 1) + i - (p2 x).length = 2 * j + i := by show 2 * (j + 1) + i - 2 = _; omega
    rw [this]
    exact flat2 xs j i (by simpa using hj) hi
/-- The heap's array. -/
theorem HM.arr {w : World} {lo hh h : Nat} {P : List Pt} (H : HM w lo hh h P) : ∃ a cap, w.heap[h]? = some (.cells #[.slice a P.length cap] 112) ∧ w.ownsRow lo 115 2 (.slice a P.length cap) P.length (P.flatMap p2) ∧ P.length ≤ cap ∧ cap ≤ maxLen ∧
    (0 < P.length → ∃ gp, a = some ⟨gp, 0, none⟩ ∧ lo ≤ gp ∧ gp < hh ∧ gp < w.heap.size ∧ ∀ j (hj : j < P.length), w.cell? ⟨gp, j * 2, none⟩ = some (lv P[j]) ∧ w.cell? ⟨gp, j * 2 + 1, none⟩ = some (.int .i64 (P[j].r : Int)) ∧ w.frozen? ⟨gp, j * 2, none⟩ = false ∧ w.frozen? ⟨gp, j * 2 + 1, none⟩ = false) := by
  obtain ⟨v, h1, h2, h3⟩ := H.hd
  have hlt := World.ownsRow.lt h2
  rcases h2.2 with ⟨q1, q2⟩ | ⟨g, cap, cur, hv, hg, hw, hc, hm, _⟩
  · refine ⟨none, 0, by rw [q2]; rw [q1] at h1; exact h1, by rw [q2]; rw [q1, q2] at h2; exact h2, by omega, by simp, fun h0 => by omega⟩
  · subst hv
    refine ⟨_, cap, h1, h2, hc, hm, fun _ => ⟨g, rfl, hg, h3 g rfl, (hlt g rfl).2, fun j hj => ⟨?_, ?_, World.ownsRow.frozenAt h2 _, World.ownsRow.frozenAt h2 _⟩⟩⟩
    · rw [World.ownsRow.cellAt h2 _ (by omega), show j * 2 = 2 * j + 0 by omega, flat2 P j 0 hj (by decide)]; rfl
    · rw [World.ownsRow.cellAt h2 _ (by omega), show j * 2 + 1 = 2 * j + 1 by omega, flat2 P j 1 hj (by decide)]; rfl
/-- A part's first entry. -/
theorem PtOk.first {w : World} {lo hh : Nat} {p : Pt} (h : PtOk w lo hh p) : ∃ x xs, p.xs = x :: xs ∧ p.g < w.heap.size ∧ (∀ i (hi : i < 7), w.cell? ⟨p.g, p.o + i, none⟩ = some ((c7 x)[i]'hi) ∧ w.frozen? ⟨p.g, p.o + i, none⟩ = false) ∧ Own w lo x.kv x.k := by
  have h1 := h.n1
  obtain ⟨cur, h2, h3⟩ := h.ce
  cases hx : p.xs with
  | nil => rw [hx] at h1; simp at h1
  | cons x xs =>
    refine ⟨x, xs, rfl, (Array.getElem?_eq_some_iff.1 h2).1, fun i hi => ⟨?_, by simp [World.frozen?, h2]⟩, h.ky x (by rw [hx]; exact List.mem_cons_self ..)⟩
    have := h3 0 h1 i hi
    simp only [hx, Nat.mul_zero, Nat.zero_add, List.getElem_cons_zero] at this
    rw [Go.Joins.cell_of_block h2 (p.o + i), this]
    congr 1
theorem hd_first {p : Pt} {x : Ev} {xs : List Ev} (h : p.xs = x :: xs) : hdT (paP p) = (x.k, p.r) := by unfold hdT paP; rw [h]; rfl
def AhPost (P : List Pt) (i j : Nat) (w : World) (e : Ending) (w' : World) : Prop := ∃ b : Bool, e = .returned (.bool b) ∧ (b = true ↔ i < P.length ∧ lePt (P.getD i ptZ) (P.getD j ptZ)) ∧ Below w.heap.size w w'
set_option maxRecDepth 100000 in
set_option maxHeartbeats 2000000 in
theorem ahead_any (lo hh h Bx : Nat) (P : List Pt) (i j : Nat) (w : World) (H : HM w lo hh h P) (hB : w.cell? ⟨Bx, 0, none⟩ = some (.pointer (some ⟨h, 0, none⟩))) (hj : i < P.length → j < P.length) :
    Calls Tryz.prog 73 #[.int .i64 (i : Int), .int .i64 (j : Int), .pointer (some ⟨Bx, 0, none⟩)] w (AhPost P i j w) := by
  obtain ⟨a, cap, e1, e2, e3, e4, e5⟩ := H.arr
  have hh0 : w.cell? ⟨h, 0, none⟩ = some (.slice a P.length cap) := by simp [World.cell?, e1]
  have hle := H.le
  unfold maxLen at e4
  by_cases hi : i < P.length
  · have hj := hj hi
    obtain ⟨gp, rfl, _, _, hgs, hcs⟩ := e5 (by omega)
    obtain ⟨x, xs, hx, hgx, hcx, hox⟩ := (H.pt _ (List.getElem_mem hi)).first
    obtain ⟨y, ys, hy, hgy, hcy, hoy⟩ := (H.pt _ (List.getElem_mem hj)).first
    have hnx := (H.pt _ (List.getElem_mem hi)).n1
    have hny := (H.pt _ (List.getElem_mem hj)).n1
    have HI : Hid (lePt (P.getD i ptZ) (P.getD j ptZ) ↔ ordF x.k (P[i].r : Int) y.k (P[j].r : Int) < 0) := by
      unfold Hid lePt ltP
      rw [getD_get _ hi, getD_get _ hj, hd_first hx, hd_first hy, ordF_lt]
    obtain ⟨p0, p1, _, _⟩ := hcs i hi
    obtain ⟨q0, q1, _, _⟩ := hcs j hj
    unfold lv at p0 q0
    generalize P[i] = p at *
    generalize P[j] = q at *
    have HX : Hid (w.cell? ⟨p.g, p.o, none⟩ = some x.kv) := (hcx 0 (by decide)).1
    have HY : Hid (w.cell? ⟨q.g, q.o, none⟩ = some y.kv) := (hcy 0 (by decide)).1
    have HOX : Hid (Reads w x.kv x.k) := hox.reads
    have HOY : Hid (Reads w y.kv y.k) := hoy.reads
    clear hcx hcy hox hoy hcs e5 e1 e2 H hx hy
    obtain ⟨pg, po, pc, pxs, pr⟩ := p
    obtain ⟨qg, qo, qc, qxs, qr⟩ := q
    simp only at *
    go_enter Tryz.func73, Tryz.ntmps73
    go_wp2_with fail
    refine wp_region_noPanic ?_
    refine wp_region_held_drew (S := (fun w' => w'.cell? ⟨Bx, 0, none⟩ = some (.pointer (some ⟨h, 0, none⟩)) ∧ w'.cell? ⟨h, 0, none⟩ = some (.slice (some ⟨gp, 0, none⟩) P.length cap) ∧ w'.cell? ⟨gp, i * 2, none⟩ = some (.slice (some ⟨pg, po, none⟩) pxs.length pc) ∧ w'.cell? ⟨gp, i * 2 + 1, none⟩ = some (.int .i64 (pr : Int)) ∧ w'.cell? ⟨gp, j * 2, none⟩ = some (.slice (some ⟨qg, qo, none⟩) qxs.length qc) ∧ w'.cell? ⟨gp, j * 2 + 1, none⟩ = some (.int .i64 (qr : Int)) ∧ Below w.heap.size w w')) (by kernel_rfl) ?_ (fun hHeld => ?_)
    · exact ⟨hB, hh0, p0, p1, q0, q1, (Below.refl _ _).drew⟩
    refine wpAnyH_take (i := 0) (v := .int .i64 (i : Int)) rfl (by kernel_rfl) (by kernel_rfl) (by kernel_rfl) (fun _ _ _ h => h) (Or.inl ⟨by rfl, ?_⟩) (by assumption) ?_
    · (intro w1 hSw; (try dsimp only at hSw); go_simp)
    simp only [List.getElem_toArray, List.getElem_cons_zero, Act.put, List.setIfInBounds_toArray, List.set_cons_zero, List.set_cons_succ]
    refine wpAnyH_take (i := 1) (v := .pointer (some ⟨h, 0, none⟩)) rfl (by kernel_rfl) (by kernel_rfl) (by kernel_rfl) (fun _ _ _ h => h) (Or.inl ⟨by rfl, ?_⟩) (by assumption) ?_
    · (intro w1 hSw; (try dsimp only at hSw); go_simp)
    simp only [List.getElem_toArray, List.getElem_cons_succ, List.getElem_cons_zero, Act.put, List.setIfInBounds_toArray, List.set_cons_zero, List.set_cons_succ]
    refine wpAnyH_take (i := 2) (v := .pointer (some ⟨h, 0, none⟩)) rfl (by kernel_rfl) (by kernel_rfl) (by kernel_rfl) (fun _ _ _ h => h) (Or.inl ⟨by rfl, ?_⟩) (by assumption) ?_
    · (intro w1 hSw; (try dsimp only at hSw); go_simp)
    simp only [List.getElem_toArray, List.getElem_cons_succ, List.getElem_cons_zero, Act.put, List.setIfInBounds_toArray, List.set_cons_zero, List.set_cons_succ]
    refine wpAnyH_take (i := 3) (v := .pointer (some ⟨h, 0, none⟩)) rfl (by kernel_rfl) (by kernel_rfl) (by kernel_rfl) (fun _ _ _ h => h) (Or.inl ⟨by rfl, ?_⟩) (by assumption) ?_
    · (intro w1 hSw; (try dsimp only at hSw); go_simp)
    simp only [List.getElem_toArray, List.getElem_cons_succ, List.getElem_cons_zero, Act.put, List.setIfInBounds_toArray, List.set_cons_zero, List.set_cons_succ]
    refine wpAnyH_take (i := 4) (v := .slice (some ⟨gp, 0, none⟩) P.length cap) rfl (by kernel_rfl) (by kernel_rfl) (by kernel_rfl) (fun _ _ _ h => h) (Or.inl ⟨by rfl, ?_⟩) (by assumption) ?_
    · (intro w1 hSw; (try dsimp only at hSw); go_simp)
    simp only [List.getElem_toArray, List.getElem_cons_succ, List.getElem_cons_zero, Act.put, List.setIfInBounds_toArray, List.set_cons_zero, List.set_cons_succ]
    refine wpAnyH_take (i := 5) (v := .int .i64 (P.length : Int)) rfl (by kernel_rfl) (by kernel_rfl) (by kernel_rfl) (fun _ _ _ h => h) (Or.inl ⟨by rfl, ?_⟩) (by assumption) ?_
    · (intro w1 hSw; (try dsimp only at hSw); go_simp)
    simp only [List.getElem_toArray, List.getElem_cons_succ, List.getElem_cons_zero, Act.put, List.setIfInBounds_toArray, List.set_cons_zero, List.set_cons_succ]
    refine wpAnyH_take (i := 6) (v := .bool true) rfl (by kernel_rfl) (by kernel_rfl) (by kernel_rfl) (fun _ _ _ h => h) (Or.inl ⟨by rfl, ?_⟩) (by assumption) ?_
    · (intro w1 hSw; (try dsimp only at hSw); go_simp)
    simp only [List.getElem_toArray, List.getElem_cons_succ, List.getElem_cons_zero, Act.put, List.setIfInBounds_toArray, List.set_cons_zero, List.set_cons_succ]
    refine wpAnyH_take (i := 7) (v := .bool true) rfl (by kernel_rfl) (by kernel_rfl) (by kernel_rfl) (fun _ _ _ h => h) (Or.inl ⟨by rfl, ?_⟩) (by assumption) ?_
    · (intro w1 hSw; (try dsimp only at hSw); go_simp)
    simp only [List.getElem_toArray, List.getElem_cons_succ, List.getElem_cons_zero, Act.put, List.setIfInBounds_toArray, List.set_cons_zero, List.set_cons_succ]
    refine wpAnyH_take (i := 8) (v := .pointer (some ⟨h, 0, none⟩)) rfl (by kernel_rfl) (by kernel_rfl) (by kernel_rfl) (fun _ _ _ h => h) (Or.inl ⟨by rfl, ?_⟩) (by assumption) ?_
    · (intro w1 hSw; (try dsimp only at hSw); go_simp)
    simp only [List.getElem_toArray, List.getElem_cons_succ, List.getElem_cons_zero, Act.put, List.setIfInBounds_toArray, List.set_cons_zero, List.set_cons_succ]
    refine wpAnyH_take (i := 9) (v := .pointer (some ⟨h, 0, none⟩)) rfl (by kernel_rfl) (by kernel_rfl) (by kernel_rfl) (fun _ _ _ h => h) (Or.inl ⟨by rfl, ?_⟩) (by assumption) ?_
    · (intro w1 hSw; (try dsimp only at hSw); go_simp)
    simp only [List.getElem_toArray, List.getElem_cons_succ, List.getElem_cons_zero, Act.put, List.setIfInBounds_toArray, List.set_cons_zero, List.set_cons_succ]
    refine wpAnyH_take (i := 10) (v := .pointer (some ⟨h, 0, none⟩)) rfl (by kernel_rfl) (by kernel_rfl) (by kernel_rfl) (fun _ _ _ h => h) (Or.inl ⟨by rfl, ?_⟩) (by assumption) ?_
    · (intro w1 hSw; (try dsimp only at hSw); go_simp)
    simp only [List.getElem_toArray, List.getElem_cons_succ, List.getElem_cons_zero, Act.put, List.setIfInBounds_toArray, List.set_cons_zero, List.set_cons_succ]
    refine wpAnyH_take (i := 11) (v := .slice (some ⟨gp, 0, none⟩) P.length cap) rfl (by kernel_rfl) (by kernel_rfl) (by kernel_rfl) (fun _ _ _ h => h) (Or.inl ⟨by rfl, ?_⟩) (by assumption) ?_
    · (intro w1 hSw; (try dsimp only at hSw); go_simp)
    simp only [List.getElem_toArray, List.getElem_cons_succ, List.getElem_cons_zero, Act.put, List.setIfInBounds_toArray, List.set_cons_zero, List.set_cons_succ]
    refine wpAnyH_take (i := 12) (v := .int .i64 (i : Int)) rfl (by kernel_rfl) (by kernel_rfl) (by kernel_rfl) (fun _ _ _ h => h) (Or.inl ⟨by rfl, ?_⟩) (by assumption) ?_
    · (intro w1 hSw; (try dsimp only at hSw); go_simp)
    simp only [List.getElem_toArray, List.getElem_cons_succ, List.getElem_cons_zero, Act.put, List.setIfInBounds_toArray, List.set_cons_zero, List.set_cons_succ]
    refine wpAnyH_take (i := 13) (v := .pointer (some ⟨gp, i * 2, none⟩)) rfl (by kernel_rfl) (by kernel_rfl) (by kernel_rfl) (fun _ _ _ h => h) (Or.inl ⟨by rfl, ?_⟩) (by assumption) ?_
    · (intro w1 hSw; (try dsimp only at hSw); go_simp)
    simp only [List.getElem_toArray, List.getElem_cons_succ, List.getElem_cons_zero, Act.put, List.setIfInBounds_toArray, List.set_cons_zero, List.set_cons_succ]
    refine wpAnyH_take (i := 14) (v := .agg #[.slice (some ⟨pg, po, none⟩) pxs.length pc, .int .i64 (pr : Int)]) rfl (by kernel_rfl) (by kernel_rfl) (by kernel_rfl) (fun _ _ _ h => h) (Or.inl ⟨by rfl, ?_⟩) (by assumption) ?_
    · (intro w1 hSw; (try dsimp only at hSw); go_simp)
    simp only [List.getElem_toArray, List.getElem_cons_succ, List.getElem_cons_zero, Act.put, List.setIfInBounds_toArray, List.set_cons_zero, List.set_cons_succ]
    refine wpAnyH_take (i := 15) (v := .pointer (some ⟨h, 0, none⟩)) rfl (by kernel_rfl) (by kernel_rfl) (by kernel_rfl) (fun _ _ _ h => h) (Or.inl ⟨by rfl, ?_⟩) (by assumption) ?_
    · (intro w1 hSw; (try dsimp only at hSw); go_simp)
    simp only [List.getElem_toArray, List.getElem_cons_succ, List.getElem_cons_zero, Act.put, List.setIfInBounds_toArray, List.set_cons_zero, List.set_cons_succ]
    refine wpAnyH_take (i := 16) (v := .pointer (some ⟨h, 0, none⟩)) rfl (by kernel_rfl) (by kernel_rfl) (by kernel_rfl) (fun _ _ _ h => h) (Or.inl ⟨by rfl, ?_⟩) (by assumption) ?_
    · (intro w1 hSw; (try dsimp only at hSw); go_simp)
    simp only [List.getElem_toArray, List.getElem_cons_succ, List.getElem_cons_zero, Act.put, List.setIfInBounds_toArray, List.set_cons_zero, List.set_cons_succ]
    refine wpAnyH_take (i := 17) (v := .pointer (some ⟨h, 0, none⟩)) rfl (by kernel_rfl) (by kernel_rfl) (by kernel_rfl) (fun _ _ _ h => h) (Or.inl ⟨by rfl, ?_⟩) (by assumption) ?_
    · (intro w1 hSw; (try dsimp only at hSw); go_simp)
    simp only [List.getElem_toArray, List.getElem_cons_succ, List.getElem_cons_zero, Act.put, List.setIfInBounds_toArray, List.set_cons_zero, List.set_cons_succ]
    refine wpAnyH_take (i := 18) (v := .slice (some ⟨gp, 0, none⟩) P.length cap) rfl (by kernel_rfl) (by kernel_rfl) (by kernel_rfl) (fun _ _ _ h => h) (Or.inl ⟨by rfl, ?_⟩) (by assumption) ?_
    · (intro w1 hSw; (try dsimp only at hSw); go_simp)
    simp only [List.getElem_toArray, List.getElem_cons_succ, List.getElem_cons_zero, Act.put, List.setIfInBounds_toArray, List.set_cons_zero, List.set_cons_succ]
    refine wpAnyH_take (i := 19) (v := .int .i64 (j : Int)) rfl (by kernel_rfl) (by kernel_rfl) (by kernel_rfl) (fun _ _ _ h => h) (Or.inl ⟨by rfl, ?_⟩) (by assumption) ?_
    · (intro w1 hSw; (try dsimp only at hSw); go_simp)
    simp only [List.getElem_toArray, List.getElem_cons_succ, List.getElem_cons_zero, Act.put, List.setIfInBounds_toArray, List.set_cons_zero, List.set_cons_succ]
    refine wpAnyH_take (i := 20) (v := .pointer (some ⟨gp, j * 2, none⟩)) rfl (by kernel_rfl) (by kernel_rfl) (by kernel_rfl) (fun _ _ _ h => h) (Or.inl ⟨by rfl, ?_⟩) (by assumption) ?_
    · (intro w1 hSw; (try dsimp only at hSw); go_simp)
    simp only [List.getElem_toArray, List.getElem_cons_succ, List.getElem_cons_zero, Act.put, List.setIfInBounds_toArray, List.set_cons_zero, List.set_cons_succ]
    refine wpAnyH_take (i := 21) (v := .agg #[.slice (some ⟨qg, qo, none⟩) qxs.length qc, .int .i64 (qr : Int)]) rfl (by kernel_rfl) (by kernel_rfl) (by kernel_rfl) (fun _ _ _ h => h) (Or.inl ⟨by rfl, ?_⟩) (by assumption) ?_
    · (intro w1 hSw; (try dsimp only at hSw); go_simp)
    simp only [List.getElem_toArray, List.getElem_cons_succ, List.getElem_cons_zero, Act.put, List.setIfInBounds_toArray, List.set_cons_zero, List.set_cons_succ]
    refine wpAnyH_ready (rs := [22]) (by kernel_rfl) (by simp) ?_
    refine AllReadyH.cons (o := _) rfl (fun K hK => ?_) AllReadyH.nil
    go_simp
    refine (order_any pg po _ pc qg qo _ qc _ _ _ _ (pr : Int) (qr : Int) hnx hny _ ((hHeld.2.2.2.2.2.2.cell (p := ⟨pg, po, none⟩) hgx).trans HX.out) ((hHeld.2.2.2.2.2.2.cell (p := ⟨qg, qo, none⟩) hgy).trans HY.out) (HOX.out.below hHeld.2.2.2.2.2.2) (HOY.out.below hHeld.2.2.2.2.2.2)).mono ?_
    rintro e w' ⟨rfl, hb'⟩
    have hk := hHeld.2.2.2.2.2.2.trans (hb'.mono hHeld.2.2.2.2.2.2.size)
    go_simp
    refine hK.out _ _ ?_ (fun hHeld => ?_)
    · exact ⟨(hk.cell (cell_block hB).1).trans hB, (hk.cell (cell_block hh0).1).trans hh0, (hk.cell (cell_block p0).1).trans p0, (hk.cell (cell_block p1).1).trans p1, (hk.cell (cell_block q0).1).trans q0, (hk.cell (cell_block q1).1).trans q1, hk⟩
    clear hK K
    generalize ordF x.k (pr : Int) y.k (qr : Int) = oo at *
    by_cases ho : oo < 0
    · skip
      refine wpAnyH_take (i := 23) (v := .bool true) rfl (by kernel_rfl) (by kernel_rfl) (by kernel_rfl) (fun _ _ _ h => h) (Or.inl ⟨by rfl, ?_⟩) (by assumption) ?_
      · (intro w1 hSw; (try dsimp only at hSw); go_simp)
      simp only [List.getElem_toArray, List.getElem_cons_succ, List.getElem_cons_zero, Act.put, List.setIfInBounds_toArray, List.set_cons_zero, List.set_cons_succ]
      refine wpAnyH_take (i := 24) (v := .bool true) rfl (by kernel_rfl) (by kernel_rfl) (by kernel_rfl) (fun _ _ _ h => h) (Or.inl ⟨by rfl, ?_⟩) (by assumption) ?_
      · (intro w1 hSw; (try dsimp only at hSw); go_simp)
      simp only [List.getElem_toArray, List.getElem_cons_succ, List.getElem_cons_zero, Act.put, List.setIfInBounds_toArray, List.set_cons_zero, List.set_cons_succ]
      refine wpAnyH_take (i := 25) (v := .bool true) rfl (by kernel_rfl) (by kernel_rfl) (by kernel_rfl) (fun _ _ _ h => h) (Or.inl ⟨by rfl, ?_⟩) (by assumption) ?_
      · (intro w1 hSw; (try dsimp only at hSw); go_simp)
      simp only [List.getElem_toArray, List.getElem_cons_succ, List.getElem_cons_zero, Act.put, List.setIfInBounds_toArray, List.set_cons_zero, List.set_cons_succ]
      refine wpAnyH_done (by kernel_rfl) ?_ _
      refine NoPanic.normal ?_
      go_wp2_with fail
      go_ret
      exact ⟨true, rfl, ⟨fun _ => ⟨hi, HI.out.2 ho⟩, fun _ => rfl⟩, hHeld.2.2.2.2.2.2⟩
    · skip
      refine wpAnyH_take (i := 23) (v := .bool false) rfl (by kernel_rfl) (by kernel_rfl) (by kernel_rfl) (fun _ _ _ h => h) (Or.inl ⟨by rfl, ?_⟩) (by assumption) ?_
      · (intro w1 hSw; (try dsimp only at hSw); go_simp)
      simp only [List.getElem_toArray, List.getElem_cons_succ, List.getElem_cons_zero, Act.put, List.setIfInBounds_toArray, List.set_cons_zero, List.set_cons_succ]
      refine wpAnyH_take (i := 24) (v := .bool false) rfl (by kernel_rfl) (by kernel_rfl) (by kernel_rfl) (fun _ _ _ h => h) (Or.inl ⟨by rfl, ?_⟩) (by assumption) ?_
      · (intro w1 hSw; (try dsimp only at hSw); go_simp)
      simp only [List.getElem_toArray, List.getElem_cons_succ, List.getElem_cons_zero, Act.put, List.setIfInBounds_toArray, List.set_cons_zero, List.set_cons_succ]
      refine wpAnyH_take (i := 25) (v := .bool false) rfl (by kernel_rfl) (by kernel_rfl) (by kernel_rfl) (fun _ _ _ h => h) (Or.inl ⟨by rfl, ?_⟩) (by assumption) ?_
      · (intro w1 hSw; (try dsimp only at hSw); go_simp)
      simp only [List.getElem_toArray, List.getElem_cons_succ, List.getElem_cons_zero, Act.put, List.setIfInBounds_toArray, List.set_cons_zero, List.set_cons_succ]
      refine wpAnyH_done (by kernel_rfl) ?_ _
      refine NoPanic.normal ?_
      go_wp2_with fail
      go_ret
      exact ⟨false, rfl, ⟨fun h => (by cases h), fun h => (by have := HI.out.1 h.2; omega)⟩, hHeld.2.2.2.2.2.2⟩
  · clear e5 hj
    have HN : Hid (¬ i < P.length) := hi
    obtain ⟨n, Hn⟩ := hid_ex P.length
    rw [← Hn.out] at hh0 hi
    go_enter Tryz.func73, Tryz.ntmps73
    go_wp2_with fail
    go_quiet (fail)
    go_wp2_with fail
    go_ret
    exact ⟨false, rfl, ⟨fun h => (by cases h), fun h => absurd h.1 HN.out⟩, below_drewN (Below.refl _ _) _⟩
end Go.Proofs.YthicmbjiblbcmaaGreat

/- A drawn region with a store at its end: what is loaded ahead of it is taken in the world ahead of it. -/
namespace Go.Proofs.YthicmbjiblbcmaaGreat
open Go.RowKit

section
variable {P : Program} {ops : Array Oper} {Q : Exit → Act → World → Prop} {md : Region.Mode} {k : Nat} {St Pr : World → Prop}
/-- What holds all the time, and what holds till operation k has come up. -/
def StK (k : Nat) (St Pr : World → Prop) (L : Array Bool) (w : World) : Prop := St w ∧ (L.getD k false = false → Pr w)
def wpAnyS (P : Program) (md : Region.Mode) (ops : Array Oper) (Q : Exit → Act → World → Prop) (k : Nat) (St Pr : World → Prop) : Nat → Array Bool → Act → World → Prop
  | 0, listed, a, w => Region.ready md ops listed = [] ∧ Q .normal a w
  | fuel + 1, listed, a, w =>
    (Region.ready md ops listed = [] → Q .normal a w) ∧
    ∀ i ∈ Region.ready md ops listed, wpOp P ops Q i (fun a' w' => StK k St Pr (listed.setIfInBounds i true) w' ∧ wpAnyS P md ops Q k St Pr fuel (listed.setIfInBounds i true) a' w') a w
theorem wpAny_of_S : ∀ (fuel : Nat) (listed : Array Bool) (a : Act) (w : World), wpAnyS P md ops Q k St Pr fuel listed a w → wpAny P md ops Q fuel listed a w
  | 0, _, _, _, h => h
  | fuel + 1, _, _, _, h => ⟨h.1, fun i hi => wpOp_mono (fun a' w' h' => wpAny_of_S fuel _ a' w' h'.2) (h.2 i hi)⟩
/-- Whatever came up, what it waits for came up. -/
def Cl (md : Region.Mode) (ops : Array Oper) (L : Array Bool) : Prop := ∀ j o, ops[j]? = some o → L.getD j false = true → ∀ e ∈ o.after, Region.binds md e = true → L.getD e.on false = true
def clB (md : Region.Mode) (ops : Array Oper) (L : Array Bool) : Bool := (List.range ops.size).all fun j => !L.getD j false || match ops[j]? with | some o => o.after.all (fun e => !Region.binds md e || L.getD e.on false) | none => true
theorem clB_spec {L : Array Bool} (h : clB md ops L = true) : Cl md ops L := by
  intro j o ho hl e he hb
  have h1 := List.all_eq_true.1 h j (List.mem_range.2 (Array.getElem?_eq_some_iff.1 ho).1)
  rw [hl, ho] at h1
  simp only [Bool.not_true, Bool.false_or] at h1
  have h2 := Array.all_eq_true_iff_forall_mem.1 h1 e he
  rw [hb] at h2
  simpa using h2
theorem Cl.set {L : Array Bool} {j : Nat} (h : Cl md ops L) (hj : j ∈ Region.ready md ops L) : Cl md ops (L.setIfInBounds j true) := by
  obtain ⟨_, o, ho, hall⟩ := mem_ready.1 hj
  intro i oi hoi hl e he hb
  by_cases hij : j = i
  · subst hij
    rw [ho] at hoi
    obtain rfl : o = oi := by simpa using hoi
    exact getD_set_true (hall e he hb)
  · rw [getD_set_ne false hij] at hl
    exact getD_set_true (h i oi hoi hl e he hb)
/-- Does operation k wait for i? -/
def waits (md : Region.Mode) (ops : Array Oper) (k i : Nat) : Bool := match ops[k]? with | some o => o.after.any (fun e => Region.binds md e && e.on == i) | none => false
theorem wpAnyS_first {i : Nat} {oi : Oper} {v : Value} (hi : ops[i]? = some oi) (hsel : ∀ (j : Nat) (o : Oper) cs b, ops[j]? = some o → o.op ≠ .select cs b)
    (hQ : ∀ c a w, Q (.panic c) (a.put oi.dst v) w → Q (.panic c) a w) (hik : i ≠ k) (dep : Bool) (hdep : waits md ops k i = dep) :
    ∀ (fuel : Nat) (listed : Array Bool) (a : Act) (w : World), Cl md ops listed →
      (∀ j oj, ops[j]? = some oj → j ≠ i → listed.getD j true = false → (∀ e ∈ oj.after, Region.binds md e = true → e.on ≠ i) → oi.apart ops oj = true) →
      i ∈ Region.ready md ops listed → YieldsIf P ops (fun w' => St w' ∧ (dep = true → Pr w')) oi v a → StK k St Pr listed w →
      wpAnyS P md ops Q k St Pr fuel (listed.setIfInBounds i true) (a.put oi.dst v) w → wpAnyS P md ops Q k St Pr (fuel + 1) listed a w := by
  have hdone : ∀ (listed : Array Bool) (w : World), Cl md ops listed → i ∈ Region.ready md ops listed → StK k St Pr listed w → (St w ∧ (dep = true → Pr w)) := fun listed w hcl hr hS => by
    refine ⟨hS.1, fun hd => hS.2 ?_⟩
    subst hdep
    unfold waits at hd
    cases hok : ops[k]? with
    | none => rw [hok] at hd; cases hd
    | some ok =>
      rw [hok] at hd
      obtain ⟨e, he, hq⟩ := Array.any_eq_true'.1 hd
      simp only [Bool.and_eq_true, beq_iff_eq] at hq
      cases hl : listed.getD k false with
      | false => rfl
      | true =>
        have h1 := hcl k ok hok hl e he hq.1
        rw [hq.2] at h1
        have h0 := (mem_ready.1 hr).1
        rcases Nat.lt_or_ge i listed.size with h' | h'
        · simp [h'] at h0 h1; rw [h0] at h1; cases h1
        · simp [Array.getElem?_eq_none h'] at h1
  have hset : ∀ (listed : Array Bool) (w : World), StK k St Pr listed w → StK k St Pr (listed.setIfInBounds i true) w := fun listed w h => ⟨h.1, fun hk => h.2 (by rw [getD_set_ne false hik] at hk; exact hk)⟩
  intro fuel
  induction fuel with
  | zero =>
    intro listed a w hcl _ hr hy hS H
    refine ⟨fun h => (by rw [h] at hr; cases hr), fun j hj => ?_⟩
    by_cases hji : j = i
    · subst hji; exact YieldsIf.wpOp (S := fun w' => St w' ∧ (dep = true → Pr w')) hi hy (hdone _ _ hcl hr hS) ⟨hset _ _ hS, H⟩
    · have := ready_mono hj hji
      rw [H.1] at this
      cases this
  | succ fuel ih =>
    intro listed a w hcl hfree hr hy hS H
    refine ⟨fun h => (by rw [h] at hr; cases hr), fun j hj => ?_⟩
    by_cases hji : j = i
    · subst hji; exact YieldsIf.wpOp (S := fun w' => St w' ∧ (dep = true → Pr w')) hi hy (hdone _ _ hcl hr hS) ⟨hset _ _ hS, H⟩
    · have h1 := H.2 j (ready_mono hj hji)
      obtain ⟨hjun, oj, hoj, hall⟩ := mem_ready.1 hj
      have hnot : ∀ e ∈ oj.after, Region.binds md e = true → e.on ≠ i := fun e he hb heq => by
        have h1 := hall e he hb
        have h0 := (mem_ready.1 hr).1
        rw [heq] at h1
        rcases Nat.lt_or_ge i listed.size with h' | h'
        · simp [h'] at h0 h1; rw [h0] at h1; cases h1
        · simp [Array.getElem?_eq_none h'] at h1
      have h2 := wpOp_putIf hoj (hfree j oj hoj hji hjun hnot) (fun cs b => hsel i oi cs b hi) (fun cs b => hsel j oj cs b hoj) hQ hy h1
      have hfree' : ∀ k ok, ops[k]? = some ok → k ≠ i → (listed.setIfInBounds j true).getD k true = false →
          (∀ e ∈ ok.after, Region.binds md e = true → e.on ≠ i) → oi.apart ops ok = true := fun k ok hk hki hun hno => by
        refine hfree k ok hk hki ?_ hno
        by_cases hjk : j = k
        · subst hjk; exact hjun
        · rw [getD_set_ne true hjk] at hun; exact hun
      refine wpOp_mono (fun a' w' h3 => ?_) h2
      have hS' : StK k St Pr (listed.setIfInBounds j true) w' := ⟨h3.2.1.1, fun hk => h3.2.1.2 (by
        rw [Array.setIfInBounds_comm _ _ (Ne.symm hji), getD_set_ne false hik]; exact hk)⟩
      refine ⟨hS', ih (listed.setIfInBounds j true) a' w' (hcl.set hj) hfree' (ready_mono hr (Ne.symm hji)) h3.1 hS' ?_⟩
      rw [Array.setIfInBounds_comm _ _ hji]
      exact h3.2.2
theorem wpAnyS_take {i : Nat} {oi : Oper} {v : Value} {fuel : Nat} {listed : Array Bool} {a : Act} {w : World} (dep : Bool) (hi : ops[i]? = some oi)
    (hs : Region.noSelect ops = true) (hf : Region.free md ops listed i = true) (hr : (Region.ready md ops listed).contains i = true) (hcl : clB md ops listed = true) (hik : Nat.beq i k = false) (hdep : waits md ops k i = dep)
    (hQ : ∀ c a w, Q (.panic c) (a.put oi.dst v) w → Q (.panic c) a w) (hy : YieldsIf P ops (fun w' => St w' ∧ (dep = true → Pr w')) oi v a) (hS : StK k St Pr listed w)
    (h : StK k St Pr (listed.setIfInBounds i true) w → wpAnyS P md ops Q k St Pr fuel (listed.setIfInBounds i true) (a.put oi.dst v) w) : wpAnyS P md ops Q k St Pr (fuel + 1) listed a w := by
  have hne : i ≠ k := fun e => by subst e; simp at hik
  exact wpAnyS_first hi (Region.noSelect_spec hs) hQ hne dep hdep fuel listed a w (clB_spec hcl) (Region.free_spec hi hf) (by simpa using hr) hy hS (h ⟨hS.1, fun hk => hS.2 (by rw [getD_set_ne false hne] at hk; exact hk)⟩)
theorem wpAnyS_ready {i : Nat} {o : Oper} {fuel : Nat} {listed : Array Bool} {a : Act} {w : World} (hr : Region.ready md ops listed = [i]) (ho : ops[i]? = some o)
    (h : ∀ K : Act → World → Prop, Shut (∀ a w, StK k St Pr (listed.setIfInBounds i true) w → (StK k St Pr (listed.setIfInBounds i true) w → wpAnyS P md ops Q k St Pr fuel (listed.setIfInBounds i true) a w) → K a w) → if Region.wanted o (yielded ops a.tmps) = true then Oper.wp P o a w K Q else K (a.put o.dst undef) w) : wpAnyS P md ops Q k St Pr (fuel + 1) listed a w := by
  refine ⟨fun h0 => (by rw [hr] at h0; cases h0), fun j hj => ?_⟩
  rw [hr] at hj
  obtain rfl : j = i := by simpa using hj
  exact wpOp_step ho (fun K' hK => h K' (fun a w h1 h2 => hK a w ⟨h1, h2 h1⟩))
theorem wpAnyS_done {listed : Array Bool} {a : Act} {w : World} (hr : Region.ready md ops listed = []) (h : Q .normal a w) : ∀ fuel, wpAnyS P md ops Q k St Pr fuel listed a w
  | 0 => ⟨hr, h⟩
  | _ + 1 => ⟨fun _ => h, by rw [hr]; simp⟩
theorem wp_region_S {id : Nat} {a : Act} {w : World} (k : Nat) (St Pr : World → Prop) (hm : P.follows .mixedOrders = true) (hS : St w.drew) (hP : Pr w.drew)
    (h : StK k St Pr (Array.replicate ops.size false) w.drew → wpAnyS P .any ops Q k St Pr ops.size (Array.replicate ops.size false) a w.drew) : (Code.region id ops true).wp P Q a w :=
  wp_region_any hm (wpAny_of_S _ _ _ _ (h ⟨hS, fun _ => hP⟩))
end
end Go.Proofs.YthicmbjiblbcmaaGreat
