/- MG12 MG13 MG14 RI MG15 MG16 MG18 MO1 FL3 FL4, joined. -/
import Derived.Test.YtbadjigfcncfcaaJ4
import Derived.Deep.LoopGhost
import Derived.Lib.SmallJoins
import Derived.BigQuiet
import Derived.Deep.QuietTactic
import Derived.Deep.MidRow
import Derived.Laws.MakeOwn
import Derived.Laws.OwnMore
/- The contract of All. -/
namespace Go.Proofs.Ytbadjigfcncfcaa
open Go.RowKit

/-- What Next leaves. -/
def NxQ (lo hh h : Nat) (T : List Tg) (kv : Value) (a : Ag) (ok : Bool) (w : World) : Prop := match T with
  | [] => ok = false ∧ HS w lo hh h []
  | t :: T' => ok = true ∧ a = t.2 ∧ HS w lo hh h T' ∧ Own w lo kv t.1.1
def NxR (lo hh h : Nat) (T : List Tg) (w : World) (e : Ending) (w' : World) : Prop := Fr lo hh w w' ∧ hh ≤ w'.heap.size ∧ ∃ (sa : Option Addr) (sn sc : Nat) (a : Ag) (r : Int) (ok : Bool), e = .returned (.tuple #[env (.slice sa sn sc) a, .int .i64 r, .bool ok]) ∧ NxQ lo hh h T (.slice sa sn sc) a ok w'
theorem next_q (lo hh h : Nat) (T : List Tg) (w : World) (H : HS w lo hh h T) : Calls Try.prog 24 #[.pointer (some ⟨h, 0, none⟩)] w (NxR lo hh h T w) := by
  refine (next_any lo hh h T w H).mono ?_
  cases T with
  | nil =>
    rintro e w' ⟨hf, rfl, hs⟩
    exact ⟨hf, Nat.le_trans H.z hf.b.size, none, 0, 0, agZ, 0, false, rfl, rfl, hs⟩
  | cons t T =>
    rintro e w' ⟨hf, kv, rfl, ho, hs⟩
    obtain ⟨sa, sc, rfl, _⟩ := ho.form
    exact ⟨hf, Nat.le_trans H.z hf.b.size, sa, _, sc, t.2, _, true, rfl, rfl, rfl, hs, ho⟩
theorem NxQ.below {lo hh h : Nat} {T : List Tg} {kv : Value} {a : Ag} {ok : Bool} {A B : World} (H : NxQ lo hh h T kv a ok A) (hb : Below A.heap.size A B) : NxQ lo hh h T kv a ok B := by
  cases T with
  | nil => exact ⟨H.1, H.2.below hb⟩
  | cons t T => exact ⟨H.1, H.2.1, H.2.2.1.below hb, H.2.2.2.below hb⟩
theorem HS.under {A B : World} {lo hh h : Nat} {T : List Tg} (H : HS A lo hh h T) (hk : ∀ k, k < hh → B.heap[k]? = A.heap[k]?) (hu : ∀ (k : Nat) (cs : Array Value) (fr : Nat × Nat), A.heap[k]? = some (Obj.cells cs 5 fr) → B.heap[k]? = some (Obj.cells cs 5 fr)) (hz : A.heap.size ≤ B.heap.size) : HS B lo hh h T := by
  obtain ⟨P, h1, h2, h3, h4⟩ := H.m
  exact ⟨⟨P, h1.under hk hu, h2, h3, h4⟩, H.s, Nat.le_trans H.z hz⟩
theorem NxQ.under {lo hh h : Nat} {T : List Tg} {kv : Value} {a : Ag} {ok : Bool} {A B : World} (H : NxQ lo hh h T kv a ok A) (hk : ∀ k, k < hh → B.heap[k]? = A.heap[k]?) (hu : ∀ (k : Nat) (cs : Array Value) (fr : Nat × Nat), A.heap[k]? = some (Obj.cells cs 5 fr) → B.heap[k]? = some (Obj.cells cs 5 fr)) (hz : A.heap.size ≤ B.heap.size) : NxQ lo hh h T kv a ok B := by
  cases T with
  | nil => exact ⟨H.1, H.2.under hk hu hz⟩
  | cons t T => exact ⟨H.1, H.2.1, H.2.2.1.under hk hu hz, own_kp H.2.2.2 hu⟩
def AlPost (rs : List (List En)) (w : World) (e : Ending) (w' : World) : Prop :=
  Below w.heap.size w w' ∧ ((rowsF rs ≠ 0 ∧ e = .returned (.tuple #[.slice none 0 0, .int .i64 (rowsF rs)])) ∨ (rowsF rs = 0 ∧ ∃ v xs, e = .returned (.tuple #[v, .int .i64 0]) ∧ EOwn w' w.heap.size v xs ∧ xs.map evE = allF rs ∧ ∀ x ∈ xs, CnOk x.a))
theorem rReads_cn {w : World} {v : Value} {rs : List (List En)} (h : RReads w v rs) : ∀ r ∈ rs, ∀ x ∈ r, CnOk x.2 := by
  obtain ⟨a, cap, rfl, h1, h2, h3⟩ := h
  intro r hr
  rcases h3 with rfl | ⟨b, off, _, _, h6⟩
  · cases hr
  · obtain ⟨j, hj, rfl⟩ := List.getElem_of_mem hr
    obtain ⟨ev, _, h7⟩ := h6 j hj
    exact h7.ok
/-- What the loop of All keeps. -/
structure AlI (rs : List (List En)) (w : World) (hh h b : Nat) (D T : List Tg) (xs : List Ev) (al kv : Value) (a : Ag) (ok : Bool) (wr : World) : Prop where
  s : seqF rs = D ++ T
  e : AlE w.heap.size hh al xs (grpG D) wr
  q : NxQ w.heap.size hh h T kv a ok wr
  x : wr.heap[b]? = some (.cells #[kv, .int .u64 a.c, .bool a.o, .int .i64 (hi a.s), .int .u64 (lo a.s), .int .i64 a.mn, .int .i64 a.mx] 59)
  l : hh ≤ b
  b : Below w.heap.size w wr
  z : w.heap.size ≤ hh ∧ hh ≤ wr.heap.size
end Go.Proofs.Ytbadjigfcncfcaa

/- The steps of the loop of All, in memory. -/
namespace Go.Proofs.Ytbadjigfcncfcaa
open Go.RowKit

theorem cur7 {cur : Array Value} {vs : List Value} (hs : cur.size = vs.length) (h : ∀ i (hi : i < vs.length), cur[0 + i]? = some vs[i]) : cur = vs.toArray := by
  apply Array.ext
  · simpa using hs
  · intro i h1 h2
    have hi : i < vs.length := by simpa using h2
    have := h i hi
    rw [Nat.zero_add, Array.getElem?_eq_getElem h1] at this
    simpa using this
theorem al_tail {rs : List (List En)} {w w5 w6 w7 W : World} {hh h : Nat} {D T : List Tg} {t : Tg} {xs : List Ev} {al kv : Value} {b7 : Array Value} {a : Ag} {ok : Bool} (hs : seqF rs = D ++ t :: T) (he : AlE w.heap.size hh al xs (grpG (D ++ [t])) w5) (hlo : w.heap.size ≤ hh) (hb5 : Below w.heap.size w w5) (hz5 : hh ≤ w5.heap.size)
    (hb6 : Below w5.heap.size w5 w6) (hx6 : w6.heap[w5.heap.size]? = some (.cells b7 59)) (hf7 : Fr w.heap.size hh w6 w7) (hz7 : hh ≤ w7.heap.size) (hq7 : NxQ w.heap.size hh h T kv a ok w7) (hs7 : b7.size = 7) (hW : StW w7 W w5.heap.size 0 b7 59 (c7 ⟨kv, [], a⟩))
    (hal : ∀ k, al.ownBlock = some k → k < w5.heap.size) : AlI rs w hh h w5.heap.size (D ++ [t]) T xs al kv a ok W ∧ al.ownBlock ≠ some w5.heap.size := by
  have h7 : w7.heap[w5.heap.size]? = some (.cells b7 59) := (hf7.h _ hz5 (Array.getElem?_eq_some_iff.1 hx6).1).trans hx6
  have hu : ∀ (k : Nat) (cs : Array Value) (fr : Nat × Nat), w7.heap[k]? = some (Obj.cells cs 5 fr) → W.heap[k]? = some (Obj.cells cs 5 fr) := fun k cs fr q => (hW.o k (typ_ne q h7 (by decide))).trans q
  have he7 := (he.below hb6).fr hf7
  have hne : al.ownBlock ≠ some w5.heap.size := fun e => by have := hal _ e; omega
  refine ⟨⟨by rw [hs]; simp, ⟨?_, fun x hx => own_kp (he7.k x hx) hu, he7.m, he7.c⟩, hq7.under (fun k hk => hW.o k (by omega)) hu (hW.b 0 (Nat.zero_le _)).size, ?_, hz5, ((hb5.trans (hb6.mono hb5.size)).trans hf7.b).trans (hW.b _ (Nat.le_trans hlo hz5)), hlo, Nat.le_trans hz7 (hW.b 0 (Nat.zero_le _)).size⟩, hne⟩
  · obtain ⟨q1, q2⟩ := he7.r
    refine ⟨q1, ?_⟩
    rcases q2 with q2 | ⟨g, cap, cur, hv, hg, hw, r⟩
    · exact .inl q2
    · exact .inr ⟨g, cap, cur, hv, hg, (hW.o g (fun e => hne (by rw [hv, ← e]; rfl))).trans hw, r⟩
  · obtain ⟨cur', k1, k2, k3, k4⟩ := hW.c
    rw [k1, cur7 (vs := c7 ⟨kv, [], a⟩) (by rw [k2, hs7]; rfl) k4]
    rfl
theorem news7 (w : World) (vs : List Value) {t : TypeId} : ∀ j u, vs[j]? = some u → (w.alloc (.cells vs.toArray t)).cell? ((⟨w.heap.size, 0, none⟩ : Addr).add j) = some u := by
  intro j u hj
  have ea : (⟨w.heap.size, 0, none⟩ : Addr).add j = ⟨w.heap.size, j, none⟩ := by simp [Addr.add]; omega
  rw [ea, Go.Joins.cell_of_block (heap_alloc_new _ _)]
  simpa using hj
theorem one7 (x : Ev) (h : x.kv.oneCell' = true) : ∀ u ∈ c7 x, u.oneCell' = true := by
  intro u hu
  simp only [c7, List.mem_cons, List.not_mem_nil, or_false] at hu
  rcases hu with rfl | rfl | rfl | rfl | rfl | rfl | rfl
  · exact h
  all_goals rfl
theorem al_append {w wr w5 : World} {hh h b : Nat} {T : List Tg} {E : List En} {t : Tg} {xs : List Ev} {al v5 kv : Value} {tmp : Obj} {bx : Array Value} {n : Nat} (he : AlE w.heap.size hh al xs E wr) (hn : xs.length = n) (ho : Own wr w.heap.size kv t.1.1) (hc : CnOk t.2)
    (hown : w5.ownsRow hh 59 7 v5 (n + 1) (xs.flatMap c7 ++ c7 ⟨kv, t.1.1, t.2⟩)) (hg : (wr.alloc tmp).grownBy w5 al.ownBlock) (hz : hh ≤ wr.heap.size) (hlo : w.heap.size ≤ hh)
    (hnb : al.ownBlock ≠ some b) (hx : wr.heap[b]? = some (.cells bx 59)) (hs : HS wr w.heap.size hh h T) (hb : Below w.heap.size w wr) :
    AlE w.heap.size hh v5 (xs ++ [⟨kv, t.1.1, t.2⟩]) (E ++ [(t.1.1, t.2)]) w5 ∧ HS w5 w.heap.size hh h T ∧ w5.heap[b]? = some (.cells bx 59) ∧ Below w.heap.size w w5 ∧ hh ≤ w5.heap.size ∧ ∀ k, v5.ownBlock = some k → k < w5.heap.size := by
  have hsz : wr.heap.size ≤ w5.heap.size := by have := hg.size; simp at this; omega
  have hrl := World.ownsRow.lt he.r
  have hrt : ∀ k, al.ownBlock = some k → ∃ cur, wr.heap[k]? = some (.cells cur 59) := by
    intro k hk
    rcases he.r.2 with ⟨q, _⟩ | ⟨g0, c0, cur, q, _, hw, _⟩
    · rw [q] at hk; simp [Value.ownBlock] at hk
    · rw [q] at hk; simp [Value.ownBlock] at hk; subst hk; exact ⟨cur, hw⟩
  have hkeep : ∀ k, k < wr.heap.size → al.ownBlock ≠ some k → w5.heap[k]? = wr.heap[k]? := fun k hk hne => (hg.block k (by simp; omega) (Ne.symm hne)).trans (Below.heap_alloc _ _ _ hk)
  have hu : ∀ (k : Nat) (cs : Array Value) (fr : Nat × Nat), wr.heap[k]? = some (Obj.cells cs 5 fr) → w5.heap[k]? = some (Obj.cells cs 5 fr) := fun k cs fr q => by
    refine (hkeep k (Array.getElem?_eq_some_iff.1 q).1 (fun e => ?_)).trans q
    obtain ⟨cur, hc⟩ := hrt k e
    rw [q] at hc
    simp at hc
  refine ⟨⟨?_, fun x hx => ?_, ?_, fun x hx => ?_⟩, hs.under (fun k hk => hkeep k (by omega) (fun e => by have := (hrl k e).1; omega)) hu hsz, (hkeep b (Array.getElem?_eq_some_iff.1 hx).1 hnb).trans hx, ?_, Nat.le_trans hz hsz, fun k hk => (World.ownsRow.lt hown k hk).2⟩
  · rw [List.length_append, List.flatMap_append, hn]
    simpa using hown
  · rcases List.mem_append.1 hx with hx | hx
    · exact own_kp (he.k x hx) hu
    · obtain rfl : x = ⟨kv, t.1.1, t.2⟩ := by simpa using hx
      exact own_kp ho hu
  · rw [List.map_append, he.m]; rfl
  · rcases List.mem_append.1 hx with hx | hx
    · exact he.c x hx
    · obtain rfl : x = ⟨kv, t.1.1, t.2⟩ := by simpa using hx
      exact hc
  · exact hb.trans (((Below.refl _ _).alloc (Nat.le_trans hlo hz) tmp).grown hg (by simp; omega) (fun k hk => Nat.le_trans hlo (hrl k hk).1))
theorem stop_app {ops : Array Oper} {rest : List Oper} {op : Oper} {a : Act} {w : World} {Q : Exit → Act → World → Prop} (s x : Operand) (t : TypeId) (_ho : op.op = .call { callee := .builtin .append, args := #[s, x], argTypes := #[t, t] }) (h : Stop (wpList Try.prog ops Q (op :: rest) a w)) : wpList Try.prog ops Q (op :: rest) a w := h.out
theorem row_form {w : World} {base sz n : Nat} {e : TypeId} {v : Value} {xs : List Value} (h : w.ownsRow base e sz v n xs) : ∃ a cap, v = .slice a n cap := by
  rcases h.2 with ⟨h1, h2⟩ | ⟨g, cap, cur, hv, _⟩
  · exact ⟨none, 0, by rw [h1, h2]⟩
  · exact ⟨_, cap, hv⟩
theorem al_merge {w wr wm W : World} {hh h b g cap m : Nat} {T : List Tg} {E : List En} {t : Tg} {xs : List Ev} {cur bx : Array Value} (he : AlE w.heap.size hh (.slice (some ⟨g, 0, none⟩) (m + 1) cap) xs E wr) (hn : xs.length = m + 1) (hc : CnOk t.2) (hk : (xs[m]'(by omega)).k = t.1.1)
    (hm : Below wr.heap.size wr wm) (hcur : wm.heap[g]? = some (.cells cur 59)) (hW : StW wm W g (m * 7 + 1) cur 59 (a6 (mrg (xs[m]'(by omega)).a t.2))) (hlo : w.heap.size ≤ hh)
    (hnb : (Value.slice (some ⟨g, 0, none⟩) (m + 1) cap).ownBlock ≠ some b) (hx : wr.heap[b]? = some (.cells bx 59)) (hs : HS wr w.heap.size hh h T) (hb : Below w.heap.size w wr) :
    AlE w.heap.size hh (.slice (some ⟨g, 0, none⟩) (m + 1) cap) (xs.set m ⟨(xs[m]'(by omega)).kv, (xs[m]'(by omega)).k, mrg (xs[m]'(by omega)).a t.2⟩) (addG E t) W ∧ HS W w.heap.size hh h T ∧ W.heap[b]? = some (.cells bx 59) ∧ Below w.heap.size w W ∧ hh ≤ W.heap.size ∧ ∀ k, (Value.slice (some ⟨g, 0, none⟩) (m + 1) cap).ownBlock = some k → k < W.heap.size := by
  have hem := he.below hm
  have hsm := hs.below hm
  have hr := hem.r
  rw [hn] at hr
  have hgl := World.ownsRow.lt hr g rfl
  have hszW : wm.heap.size ≤ W.heap.size := (hW.b 0 (Nat.zero_le _)).size
  have hu : ∀ (k : Nat) (cs : Array Value) (fr : Nat × Nat), wm.heap[k]? = some (Obj.cells cs 5 fr) → W.heap[k]? = some (Obj.cells cs 5 fr) := fun k cs fr q => (hW.o k (typ_ne q hcur (by decide))).trans q
  have hset := row_setA hr hcur hW (by omega) hn
  have hmem : ∀ x ∈ xs.set m ⟨(xs[m]'(by omega)).kv, (xs[m]'(by omega)).k, mrg (xs[m]'(by omega)).a t.2⟩, x ∈ xs ∨ x = ⟨(xs[m]'(by omega)).kv, (xs[m]'(by omega)).k, mrg (xs[m]'(by omega)).a t.2⟩ := fun x hx => List.mem_or_eq_of_mem_set hx
  have hEl : E.length = m + 1 := by rw [← he.m]; simpa using hn
  have hEm : E[m]'(by omega) = evE (xs[m]'(by omega)) := by
    have : E[m]'(by omega) = (xs.map evE)[m]'(by simp; omega) := by simp only [he.m]
    rw [this]; simp
  refine ⟨⟨by rw [show (xs.set m ⟨(xs[m]'(by omega)).kv, (xs[m]'(by omega)).k, mrg (xs[m]'(by omega)).a t.2⟩).length = m + 1 by simp [hn]]; exact hset, fun x hx => ?_, ?_, fun x hx => ?_⟩, hsm.under (fun k hk => hW.o k (by have := hgl.1; omega)) hu hszW, ?_, ?_, Nat.le_trans hsm.z hszW, fun k hk => ?_⟩
  · rcases hmem x hx with hx | rfl
    · exact own_kp (hem.k x hx) hu
    · exact own_kp (hem.k (xs[m]'(by omega)) (List.getElem_mem _)) hu
  · have h1 : addG E t = E.set (E.length - 1) (t.1.1, mrg (E[E.length - 1]'(by omega)).2 t.2) := addG_same (by omega) (by
      have e1 : E.length - 1 = m := by omega
      simp only [e1, hEm]; exact hk)
    have e1 : E.length - 1 = m := by omega
    rw [h1]
    simp only [e1, hEm]
    rw [List.map_set, he.m, ← hk]
    rfl
  · rcases hmem x hx with hx | rfl
    · exact he.c x hx
    · exact mrg_cn (he.c (xs[m]'(by omega)) (List.getElem_mem _)) hc
  · have hbl := (Array.getElem?_eq_some_iff.1 hx).1
    refine (hW.o b (fun e => hnb (by rw [e]; rfl))).trans ((hm.block b hbl).trans hx)
  · exact (hb.trans (hm.mono hb.size)).trans (hW.b _ (Nat.le_trans hlo hgl.1))
  · simp [Value.ownBlock] at hk
    omega
end Go.Proofs.Ytbadjigfcncfcaa

/- The contract of All. -/
namespace Go.Proofs.Ytbadjigfcncfcaa
open Go.RowKit

set_option maxRecDepth 100000 in
set_option maxHeartbeats 4000000 in
theorem all_some (v : Value) (rs : List (List En)) (w : World) (hR : RReads w v rs) (hl1 : rs.length ≤ 10000) (hl2 : ∀ r ∈ rs, r.length ≤ 100000) (hl3 : ∀ r ∈ rs, ∀ x ∈ r, x.1.length ≤ 100000) :
    Calls Try.prog 11 #[v] w (AlPost rs w) := by
  have HNW : Hid (∀ W, Below w.heap.size w W → Calls Try.prog 23 #[v] W (NwPost rs W)) := fun W hW => new_any v rs W (hR.below hW) hl1 hl2 hl3
  have HCN : Hid _ := seq_cn (rReads_cn hR)
  have HSL : Hid ((seqF rs).length ≤ 1000000000) := by have := seq_len hl2; unfold Hid; omega
  obtain ⟨av, cv, rfl, _⟩ := hR
  clear hl1 hl2 hl3
  go_enter Try.func11, Try.ntmps11
  go_wp2_with fail
  refine (HNW.out _ (Below.refl _ _)).mono ?_
  rintro e w1 ⟨hb1, ⟨hne, rfl⟩ | ⟨hz, h, hh, rfl, hs⟩⟩
  · have HB1 : Hid (Below w.heap.size w w1) := hb1
    have hb0 : (rowsF rs == 0) = false := by simp [hne]
    have HZ : Hid (rowsF rs ≠ 0) := hne
    have HEnd : Hid (AlPost rs w (.returned (.tuple #[.slice none 0 0, .int .i64 (rowsF rs)])) w1) := ⟨HB1.out, .inl ⟨HZ.out, rfl⟩⟩
    clear hne HNW
    generalize rowsF rs = rr at *
    go_wp2_with fail
    go_ret2
    exact HEnd.out
  · have HB1 : Hid (Below w.heap.size w w1) := hb1
    have HS1 : Hid _ := hs
    have HZR : Hid (rowsF rs = 0) := hz
    clear hb1 hs hz HNW
    go_wp2_with fail
    refine (next_q w.heap.size hh h (seqF rs) _ HS1.out).mono ?_
    rintro e w2 ⟨hf2, hz2, sa, sn, sc, a, r, ok, rfl, hq2⟩
    have HI0 : Hid (AlI rs w hh h w2.heap.size [] (seqF rs) [] (.slice none 0 0) (.slice sa sn sc) a ok (w2.alloc (.cells #[.slice sa sn sc, .int .u64 a.c, .bool a.o, .int .i64 (hi a.s), .int .u64 (Go.Proofs.Ytbadjigfcncfcaa.lo a.s), .int .i64 a.mn, .int .i64 a.mx] 59))) := by
      have hb := (Below.refl w2.heap.size w2).alloc (Nat.le_refl _) (.cells #[.slice sa sn sc, .int .u64 a.c, .bool a.o, .int .i64 (hi a.s), .int .u64 (Go.Proofs.Ytbadjigfcncfcaa.lo a.s), .int .i64 a.mn, .int .i64 a.mx] 59)
      have hlo : w.heap.size ≤ hh := by
        obtain ⟨P, h1, _⟩ := HS1.out.m
        have := h1.h1; have := h1.h2; omega
      exact ⟨rfl, ⟨World.ownsRow_nil _ _ _ _, fun x hx => (by cases hx), rfl, fun x hx => (by cases hx)⟩, hq2.below hb, heap_alloc_new _ _, hz2, (HB1.out.trans hf2.b).trans (hb.mono (by omega)), hlo, Nat.le_trans hz2 hb.size⟩
    have HZ2 : Hid _ := hz2
    clear hf2 hz2 hq2
    unfold env
    go_wp2_with fail
    obtain ⟨b0, Hb0⟩ := hid_ex w2.heap.size
    obtain ⟨wz, Hwz⟩ := hid_ex (w2.alloc (.cells #[.slice sa sn sc, .int .u64 a.c, .bool a.o, .int .i64 (hi a.s), .int .u64 (Go.Proofs.Ytbadjigfcncfcaa.lo a.s), .int .i64 a.mn, .int .i64 a.mx] 59))
    rw [← Hwz.out] at HI0 ⊢
    rw [← Hb0.out] at HI0 ⊢
    clear Hwz Hb0 HZ2
    go_loopg [6, 7, 9] (seqF rs).length (fun n al bx okv wr => ∃ (D T : List Tg) (xs : List Ev) (b : Nat) (sa : Option Addr) (sn sc : Nat) (a : Ag) (ok : Bool), bx = .pointer (some ⟨b, 0, none⟩) ∧ okv = .bool ok ∧ Hid (T.length = n) ∧ Hid (al.ownBlock ≠ some b) ∧ Hid (AlI rs w hh h b D T xs al (.slice sa sn sc) a ok wr))
    case atStart => exact ⟨[], seqF rs, [], b0, sa, sn, sc, a, ok, rfl, rfl, rfl, fun h => (by simp [Value.ownBlock] at h), HI0⟩
    case round =>
      clear HI0
      obtain ⟨D, T, xs, b, sa0, sn0, sc0, a, ok, rfl, rfl, HN, HNB, HI⟩ := hrel
      cases T with
      | nil =>
        have hq := HI.out.q
        obtain ⟨rfl, _⟩ := hq
        have HEnd : Hid (AlPost rs w (.returned (.tuple #[u6, .int .i64 0])) wr) := by
          have hs := HI.out.s
          rw [List.append_nil] at hs
          refine ⟨HI.out.b, .inr ⟨HZR.out, u6, xs, rfl, ⟨own_mono HI.out.e.r HI.out.z.1, HI.out.e.k⟩, ?_, HI.out.e.c⟩⟩
          unfold allF
          rw [hs]; exact HI.out.e.m
        go_wp2_with fail
        go_ret2
        exact HEnd.out
      | cons t T =>
        obtain ⟨rfl, rfl, hs0, ho0⟩ := HI.out.q
        have HS0 : Hid (HS wr w.heap.size hh h T) := hs0
        have HO : Hid (Own wr w.heap.size (.slice sa0 sn0 sc0) t.1.1) := ho0
        have HE : Hid (AlE w.heap.size hh u6 xs (grpG D) wr) := HI.out.e
        have HXB : Hid (wr.heap[b]? = some (.cells #[.slice sa0 sn0 sc0, .int .u64 t.2.c, .bool t.2.o, .int .i64 (hi t.2.s), .int .u64 (lo t.2.s), .int .i64 t.2.mn, .int .i64 t.2.mx] 59)) := HI.out.x
        have HZ : Hid (w.heap.size ≤ hh ∧ hh ≤ wr.heap.size) := HI.out.z
        have HB : Hid (Below w.heap.size w wr) := HI.out.b
        have HSQ : Hid (seqF rs = D ++ t :: T) := HI.out.s
        have HCT : Hid (CnOk t.2) := HCN.out t (by rw [HSQ.out]; simp)
        have hxn : xs.length ≤ 1000000000 := by
          have h1 := congrArg List.length HI.out.e.m
          have h2 := grpG_len D
          have h3 := congrArg List.length HSQ.out
          have h4 := HSL.out
          simp at h1 h3
          omega
        clear hs0 ho0 HI
        obtain ⟨aa, cc, hu6⟩ := row_form HE.out.r
        subst hu6
        rcases Nat.eq_zero_or_pos xs.length with hx0 | hx0
        · obtain rfl : xs = [] := List.length_eq_zero_iff.1 hx0
          clear hx0
          have HNEW : Hid (addG (grpG D) t = grpG D ++ [(t.1.1, t.2)]) := addG_new (fun h0 => by
            have h1 := congrArg List.length HE.out.m
            simp at h1
            omega)
          simp only [List.length_nil]
          go_wp2_with fail
          go_quiet (fail)
          obtain ⟨wd, Hwd⟩ := hid_ex (wr.drewN nq)
          have hbd : Below wr.heap.size wr wd := by rw [Hwd.out]; exact below_drewN (Below.refl _ _) nq
          rw [← Hwd.out]
          clear Hwd
          have HEd : Hid (AlE w.heap.size hh (.slice aa 0 cc) ([] : List Ev) (grpG D) wd) := HE.out.below hbd
          have HS0d : Hid (HS wd w.heap.size hh h T) := HS0.out.below hbd
          have HOd : Hid (Own wd w.heap.size (.slice sa0 sn0 sc0) t.1.1) := HO.out.below hbd
          have HXBd : Hid (wd.heap[b]? = some (.cells #[.slice sa0 sn0 sc0, .int .u64 t.2.c, .bool t.2.o, .int .i64 (hi t.2.s), .int .u64 (lo t.2.s), .int .i64 t.2.mn, .int .i64 t.2.mx] 59)) := (hbd.block b (Array.getElem?_eq_some_iff.1 HXB.out).1).trans HXB.out
          have HZd : Hid (w.heap.size ≤ hh ∧ hh ≤ wd.heap.size) := ⟨HZ.out.1, Nat.le_trans HZ.out.2 hbd.size⟩
          have HBd : Hid (Below w.heap.size w wd) := HB.out.trans (hbd.mono HB.out.size)
          clear hbd HE HS0 HO HXB HB
          obtain ⟨i0, hinf, hz0, hz1, hz2⟩ := info_parts infoEn
          obtain ⟨v5, w5, hr5, hown5, hg5, _⟩ := run_append_own (P := Try.prog) (wd.alloc (.cells #[.slice sa0 sn0 sc0, .int .u64 t.2.c, .bool t.2.o, .int .i64 (hi t.2.s), .int .u64 (lo t.2.s), .int .i64 t.2.mn, .int .i64 t.2.mx] 59)) hh 25 25 59 i0 _ 7 72 Try.underlying25 hinf hz0 hz1 hz2 rfl (by decide) (.slice aa 0 cc) (0) (([] : List Ev).flatMap c7) (World.ownsRow.alloc HEd.out.r _) ⟨wd.heap.size, 0, none⟩ 1 1 (c7 ⟨.slice sa0 sn0 sc0, t.1.1, t.2⟩) rfl (news7 wd (c7 ⟨.slice sa0 sn0 sc0, t.1.1, t.2⟩)) (one7 _ rfl) (by unfold maxLen; omega) (by omega) (by have h9 := HZd.out.2; simp; omega)
          have HA := al_append (t := t) (kv := .slice sa0 sn0 sc0) HEd.out rfl HOd.out HCT.out hown5 hg5 HZd.out.2 HZd.out.1 HNB.out HXBd.out HS0d.out HBd.out
          rw [← HNEW.out, ← grpG_snoc] at HA
          obtain ⟨g5, cap5, hv5⟩ := Go.Joins.ownsRow_form hown5 (by omega)
          subst hv5
          obtain ⟨ha1, ha2, ha3, ha4, ha5, ha6⟩ := HA
          have HE5 : Hid _ := ha1
          have HS5 : Hid _ := ha2
          have HX5 : Hid (w5.heap[b]? = some (.cells #[.slice sa0 sn0 sc0, .int .u64 t.2.c, .bool t.2.o, .int .i64 (hi t.2.s), .int .u64 (lo t.2.s), .int .i64 t.2.mn, .int .i64 t.2.mx] 59)) := ha3
          have HB5 : Hid _ := ha4
          have HZ5 : Hid _ := ha5
          have HAL : Hid _ := ha6
          clear ha1 ha2 ha3 ha4 ha5 ha6 hown5 hg5 hinf hz0 hz1 hz2
          have d0 := (cell_row HXBd.out 0 (by simp)).1
          have d1 := (cell_row HXBd.out 1 (by simp)).1
          have d2 := (cell_row HXBd.out 2 (by simp)).1
          have d3 := (cell_row HXBd.out 3 (by simp)).1
          have d4 := (cell_row HXBd.out 4 (by simp)).1
          have d5 := (cell_row HXBd.out 5 (by simp)).1
          have d6 := (cell_row HXBd.out 6 (by simp)).1
          simp only [List.getElem_toArray, List.getElem_cons_zero, List.getElem_cons_succ] at d0 d1 d2 d3 d4 d5 d6
          go_wp2_with (at_builtin; refine stop_app _ _ _ rfl ?_)
          refine Stop.of ?_
          refine wpList_app_run rfl _ _ _ _ rfl rfl _ _ _ rfl rfl hr5 ?_
          clear d0 d1 d2 d3 d4 d5 d6
          have d0 := (cell_row HX5.out 0 (by simp)).1
          have d1 := (cell_row HX5.out 1 (by simp)).1
          have d2 := (cell_row HX5.out 2 (by simp)).1
          have d3 := (cell_row HX5.out 3 (by simp)).1
          have d4 := (cell_row HX5.out 4 (by simp)).1
          have d5 := (cell_row HX5.out 5 (by simp)).1
          have d6 := (cell_row HX5.out 6 (by simp)).1
          simp only [List.getElem_toArray, List.getElem_cons_zero, List.getElem_cons_succ] at d0 d1 d2 d3 d4 d5 d6
          obtain ⟨w6, HW6⟩ := hid_ex (w5.alloc (.cells #[.slice sa0 sn0 sc0, .int .u64 t.2.c, .bool t.2.o, .int .i64 (hi t.2.s), .int .u64 (lo t.2.s), .int .i64 t.2.mn, .int .i64 t.2.mx] 59))
          have hb6 : Below w5.heap.size w5 w6 := by rw [HW6.out]; exact (Below.refl _ _).alloc (Nat.le_refl _) _
          have HX6 : Hid (w6.heap[w5.heap.size]? = some (.cells #[.slice sa0 sn0 sc0, .int .u64 t.2.c, .bool t.2.o, .int .i64 (hi t.2.s), .int .u64 (lo t.2.s), .int .i64 t.2.mn, .int .i64 t.2.mx] 59)) := by rw [HW6.out]; exact heap_alloc_new _ _
          have HTL : Hid (∀ w7 W (sa : Option Addr) (sn sc : Nat) (a : Ag) (ok : Bool), Fr w.heap.size hh w6 w7 → hh ≤ w7.heap.size → NxQ w.heap.size hh h T (.slice sa sn sc) a ok w7 → StW w7 W w5.heap.size 0 #[.slice sa0 sn0 sc0, .int .u64 t.2.c, .bool t.2.o, .int .i64 (hi t.2.s), .int .u64 (lo t.2.s), .int .i64 t.2.mn, .int .i64 t.2.mx] 59 (c7 ⟨.slice sa sn sc, [], a⟩) → AlI rs w hh h w5.heap.size (D ++ [t]) T (([] : List Ev) ++ [⟨.slice sa0 sn0 sc0, t.1.1, t.2⟩]) (.slice (some ⟨g5, 0, none⟩) (0 + 1) cap5) (.slice sa sn sc) a ok W ∧ Value.ownBlock (.slice (some ⟨g5, 0, none⟩) (0 + 1) cap5) ≠ some w5.heap.size) := fun w7 W sa sn sc a ok hf7 hz7 hq7 hW => al_tail HSQ.out HE5.out HZ.out.1 HB5.out HZ5.out hb6 HX6.out hf7 hz7 hq7 rfl hW HAL.out
          have HS6 : Hid (HS w6 w.heap.size hh h T) := HS5.out.below hb6
          have HZ6 : Hid (hh ≤ w5.heap.size ∧ w5.heap.size < w6.heap.size) := ⟨HZ5.out, by rw [HW6.out]; simp⟩
          clear hb6
          go_wp2_with fail
          rw [← HW6.out]
          clear d0 d1 d2 d3 d4 d5 d6
          refine (next_q w.heap.size hh h T _ HS6.out).mono ?_
          rintro e w7 ⟨hf7, hz7, sa', sn', sc', a', r', ok', rfl, hq7⟩
          have HX7 : Hid (w7.heap[w5.heap.size]? = some (.cells #[.slice sa0 sn0 sc0, .int .u64 t.2.c, .bool t.2.o, .int .i64 (hi t.2.s), .int .u64 (lo t.2.s), .int .i64 t.2.mn, .int .i64 t.2.mx] 59)) := (hf7.h _ HZ6.out.1 HZ6.out.2).trans HX6.out
          have HF7 : Hid _ := hf7
          have HZ7 : Hid _ := hz7
          have HQ7 : Hid _ := hq7
          clear hf7 hz7 hq7
          unfold env
          go_wp2_with (refine stop_store 59 _ _ rfl ?_)
          refine Stop.of ?_
          refine wpList_storeN rfl _ _ _ rfl w5.heap.size 0 (c7 ⟨.slice sa' sn' sc', [], a'⟩) rfl rfl _ _ HX7.out (by rw [c7_len]; simp) (by kernel_rfl) (by kernel_rfl) ?_
          intro W hW
          have HNX : Hid _ := HTL.out w7 W sa' sn' sc' a' ok' HF7.out HZ7.out HQ7.out hW
          clear hW
          go_wp2_with fail
          go_roundg T.length
          case measure => have h9 := HN.out; simp at h9; omega
          case rel => exact ⟨D ++ [t], T, _, w5.heap.size, sa', sn', sc', a', ok', rfl, rfl, rfl, HNX.out.2, HNX.out.1⟩
        · obtain ⟨m, Hm⟩ : ∃ m, Hid (xs.length = m + 1) := ⟨xs.length - 1, by unfold Hid; omega⟩
          have hml : m < xs.length := by have := Hm.out; omega
          have hm9 : m ≤ 1000000000 := by omega
          obtain ⟨g, cc', hgf⟩ := Go.Joins.ownsRow_form HE.out.r hx0
          simp at hgf
          obtain ⟨rfl, rfl⟩ := hgf
          have hat := (show EOwn wr 0 (.slice (some ⟨g, 0, none⟩) xs.length cc) xs from ⟨own_mono HE.out.r (Nat.zero_le _), fun x hx => (HE.out.k x hx).mono (Nat.zero_le _)⟩).at
          obtain ⟨a', cap', hav, hcp1, hcp2, hat⟩ := hat
          simp at hav
          obtain ⟨rfl, rfl⟩ := hav
          obtain ⟨g', hgg, _, hgs, hcell⟩ := hat hx0
          simp at hgg
          subst hgg
          unfold maxLen at hcp2
          have c0 := (hcell m hml 0 (by decide)).1
          have c1 := (hcell m hml 1 (by decide)).1
          have c2 := (hcell m hml 2 (by decide)).1
          have c3 := (hcell m hml 3 (by decide)).1
          have c4 := (hcell m hml 4 (by decide)).1
          have c5 := (hcell m hml 5 (by decide)).1
          have c6 := (hcell m hml 6 (by decide)).1
          have HKY : Hid (Reads wr xs[m].kv xs[m].k) := (HE.out.k _ (List.getElem_mem hml)).reads
          have HCY : Hid (CnOk xs[m].a) := HE.out.c _ (List.getElem_mem hml)
          have HEL : Hid ((grpG D).length = m + 1) := by unfold Hid; rw [← HE.out.m]; simpa using Hm.out
          have HEM : Hid (∀ h0 : m < (grpG D).length, (grpG D)[m] = evE xs[m]) := fun h0 => by
            have e1 : (grpG D)[m] = (xs.map evE)[m]'(by simpa using hml) := by simp only [HE.out.m]
            rw [e1]; simp
          obtain ⟨ya, Hya⟩ := hid_ex xs[m].a
          obtain ⟨yk, Hyk⟩ := hid_ex xs[m].k
          obtain ⟨yv, Hyv⟩ := hid_ex xs[m].kv
          simp only [c7, List.getElem_cons_zero, List.getElem_cons_succ] at c0 c1 c2 c3 c4 c5 c6
          rw [← Hyv.out] at c0 HKY
          rw [← Hyk.out] at HKY
          rw [← Hya.out] at c1 c2 c3 c4 c5 c6 HCY
          rw [show 7 * m + 0 = m * 7 by omega] at c0
          rw [show 7 * m + 1 = m * 7 + 1 by omega] at c1
          rw [show 7 * m + 2 = m * 7 + 1 + 1 by omega] at c2
          rw [show 7 * m + 3 = m * 7 + 1 + 2 by omega] at c3
          rw [show 7 * m + 4 = m * 7 + 1 + 3 by omega] at c4
          rw [show 7 * m + 5 = m * 7 + 1 + 4 by omega] at c5
          rw [show 7 * m + 6 = m * 7 + 1 + 5 by omega] at c6
          obtain ⟨yka, ykc, hyf, _⟩ := HKY.out.form
          subst hyf
          have hz0 := (cell_row HXB.out 0 (by simp)).1
          simp only [List.getElem_toArray, List.getElem_cons_zero] at hz0
          rw [Hm.out] at HE HNB ⊢
          clear hat hcell hx0
          by_cases hke : yk = t.1.1
          · have hkd : decide (yk = t.1.1) = true := by simpa using hke
            have HKE : Hid (yk = t.1.1) := hke
            have HKD : Hid _ := hkd
            clear hke hkd
            go_wp2_with fail
            go_quiet (exact (equal_any _ _ yk t.1.1 _ (HKY.out.below (below_drewN (Below.refl _ _) _)) (HO.out.reads.below (below_drewN (Below.refl _ _) _))).mono (fun e w h => ⟨by rw [h.1, HKD.out], _, h.2⟩))
            obtain ⟨wd, Hwd⟩ := hid_ex (wr.drewN nq)
            have hbd : Below wr.heap.size wr wd := by rw [Hwd.out]; exact below_drewN (Below.refl _ _) nq
            rw [← Hwd.out]
            clear Hwd
            have HEd : Hid (AlE w.heap.size hh (.slice (some ⟨g, 0, none⟩) (m + 1) cc) xs (grpG D) wd) := HE.out.below hbd
            have HS0d : Hid (HS wd w.heap.size hh h T) := HS0.out.below hbd
            have HOd : Hid (Own wd w.heap.size (.slice sa0 sn0 sc0) t.1.1) := HO.out.below hbd
            have HXBd : Hid (wd.heap[b]? = some (.cells #[.slice sa0 sn0 sc0, .int .u64 t.2.c, .bool t.2.o, .int .i64 (hi t.2.s), .int .u64 (lo t.2.s), .int .i64 t.2.mn, .int .i64 t.2.mx] 59)) := (hbd.block b (Array.getElem?_eq_some_iff.1 HXB.out).1).trans HXB.out
            have HZd : Hid (w.heap.size ≤ hh ∧ hh ≤ wd.heap.size) := ⟨HZ.out.1, Nat.le_trans HZ.out.2 hbd.size⟩
            have HBd : Hid (Below w.heap.size w wd) := HB.out.trans (hbd.mono HB.out.size)
            have HCW : Hid (∀ o v, wr.cell? ⟨g, o, none⟩ = some v → wd.cell? ⟨g, o, none⟩ = some v) := fun o v q => (hbd.cell (cell_block q).1).trans q
            clear hbd HE HS0 HO HXB HB
            have HER : Hid (wd.ownsRow hh 59 7 (.slice (some ⟨g, 0, none⟩) (m + 1) cc) (m + 1) (xs.flatMap c7)) := by
              have h9 := HEd.out.r
              rw [Hm.out] at h9
              exact h9
            have hgl : g < wd.heap.size := (World.ownsRow.lt HEd.out.r g rfl).2
            have hbl : b < wd.heap.size := (Array.getElem?_eq_some_iff.1 HXBd.out).1
            have HCd : Hid (∀ o v, wr.cell? ⟨g, o, none⟩ = some v → wd.cell? ⟨g, o, none⟩ = some v) := HCW.out
            have k1 := HCd.out _ _ c1
            have k2 := HCd.out _ _ c2
            have k3 := HCd.out _ _ c3
            have k4 := HCd.out _ _ c4
            have k5 := HCd.out _ _ c5
            have k6 := HCd.out _ _ c6
            have z1 := (cell_row HXBd.out 1 (by simp)).1
            have z2 := (cell_row HXBd.out 2 (by simp)).1
            have z3 := (cell_row HXBd.out 3 (by simp)).1
            have z4 := (cell_row HXBd.out 4 (by simp)).1
            have z5 := (cell_row HXBd.out 5 (by simp)).1
            have z6 := (cell_row HXBd.out 6 (by simp)).1
            simp only [List.getElem_toArray, List.getElem_cons_zero, List.getElem_cons_succ] at z1 z2 z3 z4 z5 z6
            obtain ⟨cur, hcur⟩ := row_block HER.out
            have HFT : Hid (m * 7 + 1 + 6 ≤ cur.size) := by
              rcases HER.out.2 with ⟨q, _⟩ | ⟨g', c', cur0, q, _, hw, hc1, _, hs, _⟩
              · simp at q
              · simp at q
                obtain ⟨rfl, rfl⟩ := q
                rw [hcur] at hw
                simp at hw
                subst hw
                unfold Hid
                omega
            have HCU : Hid _ := hcur
            have hpp : ¬ ((m : Int) + 1 ≤ (m : Int)) := by omega
            clear hcur c0 c1 c2 c3 c4 c5 c6 hz0 HCW
            go_wp2_with fail
            refine wp_region_noPanic ?_
            refine wp_region_S 12 (fun _ => True) (fun w' => w'.cell? ⟨g, m * 7 + 1, none⟩ = some (.int .u64 ya.c) ∧ w'.cell? ⟨g, m * 7 + 1 + 1, none⟩ = some (.bool ya.o) ∧ w'.cell? ⟨g, m * 7 + 1 + 2, none⟩ = some (.int .i64 (hi ya.s)) ∧ w'.cell? ⟨g, m * 7 + 1 + 3, none⟩ = some (.int .u64 (lo ya.s)) ∧ w'.cell? ⟨g, m * 7 + 1 + 4, none⟩ = some (.int .i64 ya.mn) ∧ w'.cell? ⟨g, m * 7 + 1 + 5, none⟩ = some (.int .i64 ya.mx) ∧ w'.cell? ⟨b, 1, none⟩ = some (.int .u64 t.2.c) ∧ w'.cell? ⟨b, 2, none⟩ = some (.bool t.2.o) ∧ w'.cell? ⟨b, 3, none⟩ = some (.int .i64 (hi t.2.s)) ∧ w'.cell? ⟨b, 4, none⟩ = some (.int .u64 (lo t.2.s)) ∧ w'.cell? ⟨b, 5, none⟩ = some (.int .i64 t.2.mn) ∧ w'.cell? ⟨b, 6, none⟩ = some (.int .i64 t.2.mx)) (by kernel_rfl) ?_ ?_ (fun hHeld => ?_)
            · trivial
            · exact ⟨k1, k2, k3, k4, k5, k6, z1, z2, z3, z4, z5, z6⟩
            refine wpAnyS_take (i := 0) (v := .slice (some ⟨g, 0, none⟩) (m + 1) cc) _ rfl (by kernel_rfl) (by kernel_rfl) (by kernel_rfl) (by kernel_rfl) (by kernel_rfl) rfl (fun _ _ _ h => h) (Or.inl ⟨by rfl, ?_⟩) hHeld (fun hHeld => ?_)
            · (intro w1 hSw; have hSw := hSw.1; (try dsimp only at hSw); go_simp)
            simp only [List.getElem_toArray, List.getElem_cons_zero, Act.put, List.setIfInBounds_toArray, List.set_cons_zero, List.set_cons_succ]
            refine wpAnyS_take (i := 1) (v := .int .i64 (m : Int)) _ rfl (by kernel_rfl) (by kernel_rfl) (by kernel_rfl) (by kernel_rfl) (by kernel_rfl) rfl (fun _ _ _ h => h) (Or.inl ⟨by rfl, ?_⟩) hHeld (fun hHeld => ?_)
            · (intro w1 hSw; have hSw := hSw.1; (try dsimp only at hSw); go_simp)
            simp only [List.getElem_toArray, List.getElem_cons_succ, List.getElem_cons_zero, Act.put, List.setIfInBounds_toArray, List.set_cons_zero, List.set_cons_succ]
            refine wpAnyS_take (i := 2) (v := .slice (some ⟨g, 0, none⟩) (m + 1) cc) _ rfl (by kernel_rfl) (by kernel_rfl) (by kernel_rfl) (by kernel_rfl) (by kernel_rfl) rfl (fun _ _ _ h => h) (Or.inl ⟨by rfl, ?_⟩) hHeld (fun hHeld => ?_)
            · (intro w1 hSw; have hSw := hSw.1; (try dsimp only at hSw); go_simp)
            simp only [List.getElem_toArray, List.getElem_cons_succ, List.getElem_cons_zero, Act.put, List.setIfInBounds_toArray, List.set_cons_zero, List.set_cons_succ]
            refine wpAnyS_take (i := 3) (v := .int .i64 (m : Int)) _ rfl (by kernel_rfl) (by kernel_rfl) (by kernel_rfl) (by kernel_rfl) (by kernel_rfl) rfl (fun _ _ _ h => h) (Or.inl ⟨by rfl, ?_⟩) hHeld (fun hHeld => ?_)
            · (intro w1 hSw; have hSw := hSw.1; (try dsimp only at hSw); go_simp)
            simp only [List.getElem_toArray, List.getElem_cons_succ, List.getElem_cons_zero, Act.put, List.setIfInBounds_toArray, List.set_cons_zero, List.set_cons_succ]
            refine wpAnyS_take (i := 4) (v := .pointer (some ⟨g, m * 7, none⟩)) _ rfl (by kernel_rfl) (by kernel_rfl) (by kernel_rfl) (by kernel_rfl) (by kernel_rfl) rfl (fun _ _ _ h => h) (Or.inl ⟨by rfl, ?_⟩) hHeld (fun hHeld => ?_)
            · (intro w1 hSw; have hSw := hSw.1; (try dsimp only at hSw); go_simp)
            simp only [List.getElem_toArray, List.getElem_cons_succ, List.getElem_cons_zero, Act.put, List.setIfInBounds_toArray, List.set_cons_zero, List.set_cons_succ]
            refine wpAnyS_take (i := 5) (v := .pointer (some ⟨g, m * 7 + 1, none⟩)) _ rfl (by kernel_rfl) (by kernel_rfl) (by kernel_rfl) (by kernel_rfl) (by kernel_rfl) rfl (fun _ _ _ h => h) (Or.inl ⟨by rfl, ?_⟩) hHeld (fun hHeld => ?_)
            · (intro w1 hSw; have hSw := hSw.1; (try dsimp only at hSw); go_simp)
            simp only [List.getElem_toArray, List.getElem_cons_succ, List.getElem_cons_zero, Act.put, List.setIfInBounds_toArray, List.set_cons_zero, List.set_cons_succ]
            refine wpAnyS_take (i := 6) (v := .agg #[.int .u64 ya.c, .bool ya.o, .int .i64 (hi ya.s), .int .u64 (lo ya.s), .int .i64 ya.mn, .int .i64 ya.mx]) true rfl (by kernel_rfl) (by kernel_rfl) (by kernel_rfl) (by kernel_rfl) (by kernel_rfl) (by kernel_rfl) (fun _ _ _ h => h) (Or.inl ⟨by rfl, ?_⟩) hHeld (fun hHeld => ?_)
            · (intro w1 hSw; have hSw2 := hSw.2 rfl; have hSw := hSw.1; (try dsimp only at hSw hSw2); go_simp)
            simp only [List.getElem_toArray, List.getElem_cons_succ, List.getElem_cons_zero, Act.put, List.setIfInBounds_toArray, List.set_cons_zero, List.set_cons_succ]
            refine wpAnyS_take (i := 7) (v := .pointer (some ⟨b, 1, none⟩)) _ rfl (by kernel_rfl) (by kernel_rfl) (by kernel_rfl) (by kernel_rfl) (by kernel_rfl) rfl (fun _ _ _ h => h) (Or.inl ⟨by rfl, ?_⟩) hHeld (fun hHeld => ?_)
            · (intro w1 hSw; have hSw := hSw.1; (try dsimp only at hSw); go_simp)
            simp only [List.getElem_toArray, List.getElem_cons_succ, List.getElem_cons_zero, Act.put, List.setIfInBounds_toArray, List.set_cons_zero, List.set_cons_succ]
            refine wpAnyS_take (i := 8) (v := .agg #[.int .u64 t.2.c, .bool t.2.o, .int .i64 (hi t.2.s), .int .u64 (lo t.2.s), .int .i64 t.2.mn, .int .i64 t.2.mx]) true rfl (by kernel_rfl) (by kernel_rfl) (by kernel_rfl) (by kernel_rfl) (by kernel_rfl) (by kernel_rfl) (fun _ _ _ h => h) (Or.inl ⟨by rfl, ?_⟩) hHeld (fun hHeld => ?_)
            · (intro w1 hSw; have hSw2 := hSw.2 rfl; have hSw := hSw.1; (try dsimp only at hSw hSw2); go_simp)
            simp only [List.getElem_toArray, List.getElem_cons_succ, List.getElem_cons_zero, Act.put, List.setIfInBounds_toArray, List.set_cons_zero, List.set_cons_succ]
            refine wpAnyS_ready (i := 9) (by kernel_rfl) rfl (fun K hK => ?_)
            go_simp
            refine (merge_any ya t.2 HCY.out.1 HCY.out.2 HCT.out.1 HCT.out.2 _).mono ?_
            rintro e wm ⟨rfl, hbm0⟩
            have hbm : Below wd.heap.size wd wm := (Below.refl wd.heap.size wd).drew.trans hbm0
            go_simp
            refine hK.out _ _ ⟨?_, fun _ => ?_⟩ (fun hHeld => ?_)
            · trivial
            · exact ⟨(hbm.cell (p := ⟨g, _, none⟩) hgl).trans k1, (hbm.cell (p := ⟨g, _, none⟩) hgl).trans k2, (hbm.cell (p := ⟨g, _, none⟩) hgl).trans k3, (hbm.cell (p := ⟨g, _, none⟩) hgl).trans k4, (hbm.cell (p := ⟨g, _, none⟩) hgl).trans k5, (hbm.cell (p := ⟨g, _, none⟩) hgl).trans k6, (hbm.cell (p := ⟨b, _, none⟩) hbl).trans z1, (hbm.cell (p := ⟨b, _, none⟩) hbl).trans z2, (hbm.cell (p := ⟨b, _, none⟩) hbl).trans z3, (hbm.cell (p := ⟨b, _, none⟩) hbl).trans z4, (hbm.cell (p := ⟨b, _, none⟩) hbl).trans z5, (hbm.cell (p := ⟨b, _, none⟩) hbl).trans z6⟩
            clear hK K
            refine wpAnyS_take (i := 10) (v := .pointer (some ⟨g, m * 7, none⟩)) _ rfl (by kernel_rfl) (by kernel_rfl) (by kernel_rfl) (by kernel_rfl) (by kernel_rfl) rfl (fun _ _ _ h => h) (Or.inl ⟨by rfl, ?_⟩) hHeld (fun hHeld => ?_)
            · (intro w1 hSw; have hSw := hSw.1; (try dsimp only at hSw); go_simp)
            simp only [List.getElem_toArray, List.getElem_cons_succ, List.getElem_cons_zero, Act.put, List.setIfInBounds_toArray, List.set_cons_zero, List.set_cons_succ]
            refine wpAnyS_take (i := 11) (v := .pointer (some ⟨g, m * 7 + 1, none⟩)) _ rfl (by kernel_rfl) (by kernel_rfl) (by kernel_rfl) (by kernel_rfl) (by kernel_rfl) rfl (fun _ _ _ h => h) (Or.inl ⟨by rfl, ?_⟩) hHeld (fun hHeld => ?_)
            · (intro w1 hSw; have hSw := hSw.1; (try dsimp only at hSw); go_simp)
            simp only [List.getElem_toArray, List.getElem_cons_succ, List.getElem_cons_zero, Act.put, List.setIfInBounds_toArray, List.set_cons_zero, List.set_cons_succ]
            have HCM : Hid (wm.heap[g]? = some (.cells cur 59)) := (hbm.block g hgl).trans HCU.out
            refine wpAnyS_ready (i := 12) (by kernel_rfl) rfl (fun K hK => ?_)
            rw [if_pos (by rfl)]
            refine wp_storeN _ _ _ rfl g (m * 7 + 1) (a6 (mrg ya t.2)) rfl rfl cur _ HCM.out HFT.out (by kernel_rfl) (by kernel_rfl) (fun W0 hW0 => ?_)
            refine hK.out _ _ ⟨?_, fun hno => absurd hno (by decide)⟩ (fun hHeld => ?_)
            · trivial
            clear hK K
            refine wpAnyS_done (by kernel_rfl) ?_ _
            refine NoPanic.normal ?_
            rw [Hya.out] at hW0
            have HA := al_merge HEd.out Hm.out HCT.out (by rw [← Hyk.out]; exact HKE.out) hbm HCM.out hW0 HZd.out.1 HNB.out HXBd.out HS0d.out HBd.out
            rw [← grpG_snoc] at HA
            obtain ⟨ha1, ha2, ha3, ha4, ha5, ha6⟩ := HA
            have HE5 : Hid _ := ha1
            have HS5 : Hid _ := ha2
            have HX5 : Hid (W0.heap[b]? = some (.cells #[.slice sa0 sn0 sc0, .int .u64 t.2.c, .bool t.2.o, .int .i64 (hi t.2.s), .int .u64 (lo t.2.s), .int .i64 t.2.mn, .int .i64 t.2.mx] 59)) := ha3
            have HB5 : Hid _ := ha4
            have HZ5 : Hid _ := ha5
            have HAL : Hid _ := ha6
            clear ha1 ha2 ha3 ha4 ha5 ha6 hW0 hbm hbm0 k1 k2 k3 k4 k5 k6 z1 z2 z3 z4 z5 z6
            have d0 := (cell_row HX5.out 0 (by simp)).1
            have d1 := (cell_row HX5.out 1 (by simp)).1
            have d2 := (cell_row HX5.out 2 (by simp)).1
            have d3 := (cell_row HX5.out 3 (by simp)).1
            have d4 := (cell_row HX5.out 4 (by simp)).1
            have d5 := (cell_row HX5.out 5 (by simp)).1
            have d6 := (cell_row HX5.out 6 (by simp)).1
            simp only [List.getElem_toArray, List.getElem_cons_zero, List.getElem_cons_succ] at d0 d1 d2 d3 d4 d5 d6
            obtain ⟨w6, HW6⟩ := hid_ex (W0.alloc (.cells #[.slice sa0 sn0 sc0, .int .u64 t.2.c, .bool t.2.o, .int .i64 (hi t.2.s), .int .u64 (lo t.2.s), .int .i64 t.2.mn, .int .i64 t.2.mx] 59))
            have hb6 : Below W0.heap.size W0 w6 := by rw [HW6.out]; exact (Below.refl _ _).alloc (Nat.le_refl _) _
            have HX6 : Hid (w6.heap[W0.heap.size]? = some (.cells #[.slice sa0 sn0 sc0, .int .u64 t.2.c, .bool t.2.o, .int .i64 (hi t.2.s), .int .u64 (lo t.2.s), .int .i64 t.2.mn, .int .i64 t.2.mx] 59)) := by rw [HW6.out]; exact heap_alloc_new _ _
            have HTL : Hid (∀ w7 W (sa : Option Addr) (sn sc : Nat) (a : Ag) (ok : Bool), Fr w.heap.size hh w6 w7 → hh ≤ w7.heap.size → NxQ w.heap.size hh h T (.slice sa sn sc) a ok w7 → StW w7 W W0.heap.size 0 #[.slice sa0 sn0 sc0, .int .u64 t.2.c, .bool t.2.o, .int .i64 (hi t.2.s), .int .u64 (lo t.2.s), .int .i64 t.2.mn, .int .i64 t.2.mx] 59 (c7 ⟨.slice sa sn sc, [], a⟩) → AlI rs w hh h W0.heap.size (D ++ [t]) T (xs.set m ⟨xs[m].kv, xs[m].k, mrg xs[m].a t.2⟩) (.slice (some ⟨g, 0, none⟩) (m + 1) cc) (.slice sa sn sc) a ok W ∧ Value.ownBlock (.slice (some ⟨g, 0, none⟩) (m + 1) cc) ≠ some W0.heap.size) := fun w7 W sa sn sc a ok hf7 hz7 hq7 hW => al_tail HSQ.out HE5.out HZ.out.1 HB5.out HZ5.out hb6 HX6.out hf7 hz7 hq7 rfl hW HAL.out
            have HS6 : Hid (HS w6 w.heap.size hh h T) := HS5.out.below hb6
            have HZ6 : Hid (hh ≤ W0.heap.size ∧ W0.heap.size < w6.heap.size) := ⟨HZ5.out, by rw [HW6.out]; simp⟩
            clear hb6
            go_wp2_with fail
            rw [← HW6.out]
            clear d0 d1 d2 d3 d4 d5 d6
            refine (next_q w.heap.size hh h T _ HS6.out).mono ?_
            rintro e w7 ⟨hf7, hz7, sa', sn', sc', a', r', ok', rfl, hq7⟩
            have HX7 : Hid (w7.heap[W0.heap.size]? = some (.cells #[.slice sa0 sn0 sc0, .int .u64 t.2.c, .bool t.2.o, .int .i64 (hi t.2.s), .int .u64 (lo t.2.s), .int .i64 t.2.mn, .int .i64 t.2.mx] 59)) := (hf7.h _ HZ6.out.1 HZ6.out.2).trans HX6.out
            have HF7 : Hid _ := hf7
            have HZ7 : Hid _ := hz7
            have HQ7 : Hid _ := hq7
            clear hf7 hz7 hq7
            unfold env
            go_wp2_with (refine stop_store 59 _ _ rfl ?_)
            refine Stop.of ?_
            refine wpList_storeN rfl _ _ _ rfl W0.heap.size 0 (c7 ⟨.slice sa' sn' sc', [], a'⟩) rfl rfl _ _ HX7.out (by rw [c7_len]; simp) (by kernel_rfl) (by kernel_rfl) ?_
            intro W hW
            have HNX : Hid _ := HTL.out w7 W sa' sn' sc' a' ok' HF7.out HZ7.out HQ7.out hW
            clear hW
            go_wp2_with fail
            go_roundg T.length
            case measure => have h9 := HN.out; simp at h9; omega
            case rel => exact ⟨D ++ [t], T, _, W0.heap.size, sa', sn', sc', a', ok', rfl, rfl, rfl, HNX.out.2, HNX.out.1⟩
          · have hkd : decide (yk = t.1.1) = false := by simpa using hke
            have HKD : Hid _ := hkd
            have HNEW : Hid (addG (grpG D) t = grpG D ++ [(t.1.1, t.2)]) := addG_new (fun h0 h1 => hke (by
              have e1 : (grpG D).length - 1 = m := by have := HEL.out; omega
              simp only [e1] at h1
              rw [HEM.out (by have := HEL.out; omega)] at h1
              rw [Hyk.out]; exact h1))
            clear hke hkd
            go_wp2_with fail
            go_quiet (exact (equal_any _ _ yk t.1.1 _ (HKY.out.below (below_drewN (Below.refl _ _) _)) (HO.out.reads.below (below_drewN (Below.refl _ _) _))).mono (fun e w h => ⟨by rw [h.1, HKD.out], _, h.2⟩))
            clear c0 c1 c2 c3 c4 c5 c6 hz0
            obtain ⟨wd, Hwd⟩ := hid_ex (wr.drewN nq)
            have hbd : Below wr.heap.size wr wd := by rw [Hwd.out]; exact below_drewN (Below.refl _ _) nq
            rw [← Hwd.out]
            clear Hwd
            have HEd : Hid (AlE w.heap.size hh (.slice (some ⟨g, 0, none⟩) (m + 1) cc) xs (grpG D) wd) := HE.out.below hbd
            have HS0d : Hid (HS wd w.heap.size hh h T) := HS0.out.below hbd
            have HOd : Hid (Own wd w.heap.size (.slice sa0 sn0 sc0) t.1.1) := HO.out.below hbd
            have HXBd : Hid (wd.heap[b]? = some (.cells #[.slice sa0 sn0 sc0, .int .u64 t.2.c, .bool t.2.o, .int .i64 (hi t.2.s), .int .u64 (lo t.2.s), .int .i64 t.2.mn, .int .i64 t.2.mx] 59)) := (hbd.block b (Array.getElem?_eq_some_iff.1 HXB.out).1).trans HXB.out
            have HZd : Hid (w.heap.size ≤ hh ∧ hh ≤ wd.heap.size) := ⟨HZ.out.1, Nat.le_trans HZ.out.2 hbd.size⟩
            have HBd : Hid (Below w.heap.size w wd) := HB.out.trans (hbd.mono HB.out.size)
            clear hbd HE HS0 HO HXB HB
            have HER : Hid (wd.ownsRow hh 59 7 (.slice (some ⟨g, 0, none⟩) (m + 1) cc) (m + 1) (xs.flatMap c7)) := by
              have h9 := HEd.out.r
              rw [Hm.out] at h9
              exact h9
            obtain ⟨i0, hinf, hz0, hz1, hz2⟩ := info_parts infoEn
            obtain ⟨v5, w5, hr5, hown5, hg5, _⟩ := run_append_own (P := Try.prog) (wd.alloc (.cells #[.slice sa0 sn0 sc0, .int .u64 t.2.c, .bool t.2.o, .int .i64 (hi t.2.s), .int .u64 (lo t.2.s), .int .i64 t.2.mn, .int .i64 t.2.mx] 59)) hh 25 25 59 i0 _ 7 72 Try.underlying25 hinf hz0 hz1 hz2 rfl (by decide) (.slice (some ⟨g, 0, none⟩) (m + 1) cc) (m + 1) (xs.flatMap c7) (World.ownsRow.alloc HER.out _) ⟨wd.heap.size, 0, none⟩ 1 1 (c7 ⟨.slice sa0 sn0 sc0, t.1.1, t.2⟩) rfl (news7 wd (c7 ⟨.slice sa0 sn0 sc0, t.1.1, t.2⟩)) (one7 _ rfl) (by unfold maxLen; omega) (by omega) (by have h9 := HZd.out.2; simp; omega)
            have HA := al_append (t := t) (kv := .slice sa0 sn0 sc0) HEd.out Hm.out HOd.out HCT.out hown5 hg5 HZd.out.2 HZd.out.1 HNB.out HXBd.out HS0d.out HBd.out
            rw [← HNEW.out, ← grpG_snoc] at HA
            obtain ⟨g5, cap5, hv5⟩ := Go.Joins.ownsRow_form hown5 (by omega)
            subst hv5
            obtain ⟨ha1, ha2, ha3, ha4, ha5, ha6⟩ := HA
            have HE5 : Hid _ := ha1
            have HS5 : Hid _ := ha2
            have HX5 : Hid (w5.heap[b]? = some (.cells #[.slice sa0 sn0 sc0, .int .u64 t.2.c, .bool t.2.o, .int .i64 (hi t.2.s), .int .u64 (lo t.2.s), .int .i64 t.2.mn, .int .i64 t.2.mx] 59)) := ha3
            have HB5 : Hid _ := ha4
            have HZ5 : Hid _ := ha5
            have HAL : Hid _ := ha6
            clear ha1 ha2 ha3 ha4 ha5 ha6 hown5 hg5 hinf hz0 hz1 hz2
            have d0 := (cell_row HXBd.out 0 (by simp)).1
            have d1 := (cell_row HXBd.out 1 (by simp)).1
            have d2 := (cell_row HXBd.out 2 (by simp)).1
            have d3 := (cell_row HXBd.out 3 (by simp)).1
            have d4 := (cell_row HXBd.out 4 (by simp)).1
            have d5 := (cell_row HXBd.out 5 (by simp)).1
            have d6 := (cell_row HXBd.out 6 (by simp)).1
            simp only [List.getElem_toArray, List.getElem_cons_zero, List.getElem_cons_succ] at d0 d1 d2 d3 d4 d5 d6
            go_wp2_with (at_builtin; refine stop_app _ _ _ rfl ?_)
            refine Stop.of ?_
            refine wpList_app_run rfl _ _ _ _ rfl rfl _ _ _ rfl rfl hr5 ?_
            clear d0 d1 d2 d3 d4 d5 d6
            have d0 := (cell_row HX5.out 0 (by simp)).1
            have d1 := (cell_row HX5.out 1 (by simp)).1
            have d2 := (cell_row HX5.out 2 (by simp)).1
            have d3 := (cell_row HX5.out 3 (by simp)).1
            have d4 := (cell_row HX5.out 4 (by simp)).1
            have d5 := (cell_row HX5.out 5 (by simp)).1
            have d6 := (cell_row HX5.out 6 (by simp)).1
            simp only [List.getElem_toArray, List.getElem_cons_zero, List.getElem_cons_succ] at d0 d1 d2 d3 d4 d5 d6
            obtain ⟨w6, HW6⟩ := hid_ex (w5.alloc (.cells #[.slice sa0 sn0 sc0, .int .u64 t.2.c, .bool t.2.o, .int .i64 (hi t.2.s), .int .u64 (lo t.2.s), .int .i64 t.2.mn, .int .i64 t.2.mx] 59))
            have hb6 : Below w5.heap.size w5 w6 := by rw [HW6.out]; exact (Below.refl _ _).alloc (Nat.le_refl _) _
            have HX6 : Hid (w6.heap[w5.heap.size]? = some (.cells #[.slice sa0 sn0 sc0, .int .u64 t.2.c, .bool t.2.o, .int .i64 (hi t.2.s), .int .u64 (lo t.2.s), .int .i64 t.2.mn, .int .i64 t.2.mx] 59)) := by rw [HW6.out]; exact heap_alloc_new _ _
            have HTL : Hid (∀ w7 W (sa : Option Addr) (sn sc : Nat) (a : Ag) (ok : Bool), Fr w.heap.size hh w6 w7 → hh ≤ w7.heap.size → NxQ w.heap.size hh h T (.slice sa sn sc) a ok w7 → StW w7 W w5.heap.size 0 #[.slice sa0 sn0 sc0, .int .u64 t.2.c, .bool t.2.o, .int .i64 (hi t.2.s), .int .u64 (lo t.2.s), .int .i64 t.2.mn, .int .i64 t.2.mx] 59 (c7 ⟨.slice sa sn sc, [], a⟩) → AlI rs w hh h w5.heap.size (D ++ [t]) T (xs ++ [⟨.slice sa0 sn0 sc0, t.1.1, t.2⟩]) (.slice (some ⟨g5, 0, none⟩) (m + 1 + 1) cap5) (.slice sa sn sc) a ok W ∧ Value.ownBlock (.slice (some ⟨g5, 0, none⟩) (m + 1 + 1) cap5) ≠ some w5.heap.size) := fun w7 W sa sn sc a ok hf7 hz7 hq7 hW => al_tail HSQ.out HE5.out HZ.out.1 HB5.out HZ5.out hb6 HX6.out hf7 hz7 hq7 rfl hW HAL.out
            have HS6 : Hid (HS w6 w.heap.size hh h T) := HS5.out.below hb6
            have HZ6 : Hid (hh ≤ w5.heap.size ∧ w5.heap.size < w6.heap.size) := ⟨HZ5.out, by rw [HW6.out]; simp⟩
            clear hb6
            go_wp2_with fail
            rw [← HW6.out]
            clear d0 d1 d2 d3 d4 d5 d6
            refine (next_q w.heap.size hh h T _ HS6.out).mono ?_
            rintro e w7 ⟨hf7, hz7, sa', sn', sc', a', r', ok', rfl, hq7⟩
            have HX7 : Hid (w7.heap[w5.heap.size]? = some (.cells #[.slice sa0 sn0 sc0, .int .u64 t.2.c, .bool t.2.o, .int .i64 (hi t.2.s), .int .u64 (lo t.2.s), .int .i64 t.2.mn, .int .i64 t.2.mx] 59)) := (hf7.h _ HZ6.out.1 HZ6.out.2).trans HX6.out
            have HF7 : Hid _ := hf7
            have HZ7 : Hid _ := hz7
            have HQ7 : Hid _ := hq7
            clear hf7 hz7 hq7
            unfold env
            go_wp2_with (refine stop_store 59 _ _ rfl ?_)
            refine Stop.of ?_
            refine wpList_storeN rfl _ _ _ rfl w5.heap.size 0 (c7 ⟨.slice sa' sn' sc', [], a'⟩) rfl rfl _ _ HX7.out (by rw [c7_len]; simp) (by kernel_rfl) (by kernel_rfl) ?_
            intro W hW
            have HNX : Hid _ := HTL.out w7 W sa' sn' sc' a' ok' HF7.out HZ7.out HQ7.out hW
            clear hW
            go_wp2_with fail
            go_roundg T.length
            case measure => have h9 := HN.out; simp at h9; omega
            case rel => exact ⟨D ++ [t], T, _, w5.heap.size, sa', sn', sc', a', ok', rfl, rfl, rfl, HNX.out.2, HNX.out.1⟩

end Go.Proofs.Ytbadjigfcncfcaa

/- A drawn region by what each of its operations yields, in whatever order they come: one goal for each operation. -/
namespace Go.Proofs.Ytbadjigfcncfcaa
open Go.RowKit

/-- How many have not come up. -/
def unl : List Bool → Nat
  | [] => 0
  | b :: l => (if b then 0 else 1) + unl l
theorem unl_set : ∀ (l : List Bool) (i : Nat), l[i]? = some false → unl (l.set i true) + 1 = unl l
  | [], i, h => by simp at h
  | b :: l, 0, h => by simp at h; subst h; simp [unl]; omega
  | b :: l, i + 1, h => by
    simp at h
    have := unl_set l i (by simpa using h)
    simp only [List.set_cons_succ, unl]; omega
theorem unl_zero : ∀ (l : List Bool) (i : Nat), unl l = 0 → l[i]? ≠ some false
  | [], i, _ => by simp
  | b :: l, 0, h => by
    intro e; simp at e; subst e; simp [unl] at h
  | b :: l, i + 1, h => by
    simp only [unl] at h
    have := unl_zero l i (by omega)
    simpa using this
theorem getD_false {listed : Array Bool} {i : Nat} (h : listed.getD i true = false) : listed.toList[i]? = some false := by
  rcases Nat.lt_or_ge i listed.size with hl | hl
  · simp [hl] at h; simp [hl, h]
  · simp [Array.getElem?_eq_none hl] at h
theorem unl_rep : ∀ n, unl (List.replicate n false) = n
  | 0 => rfl
  | n + 1 => by rw [List.replicate_succ, unl, unl_rep n]; simp; omega
theorem wpAny_inv {P : Program} {md : Region.Mode} {ops : Array Oper} {Q : Exit → Act → World → Prop} (I : Array Bool → Act → World → Prop)
    (step : ∀ listed a w i, I listed a w → i ∈ Region.ready md ops listed → wpOp P ops Q i (I (listed.setIfInBounds i true)) a w)
    (done : ∀ listed a w, I listed a w → Region.ready md ops listed = [] → Q .normal a w) :
    ∀ (fuel : Nat) (listed : Array Bool) (a : Act) (w : World), unl listed.toList ≤ fuel → I listed a w → wpAny P md ops Q fuel listed a w
  | 0, listed, a, w, hf, hI => by
    have hr : Region.ready md ops listed = [] := by
      rw [List.eq_nil_iff_forall_not_mem]
      intro i hi
      exact unl_zero _ i (by omega) (getD_false (mem_ready.1 hi).1)
    exact ⟨hr, done _ _ _ hI hr⟩
  | fuel + 1, listed, a, w, hf, hI => ⟨done _ _ _ hI, fun i hi => wpOp_mono (fun a' w' h' => wpAny_inv I step done fuel _ a' w' (by
      have := unl_set _ i (getD_false (mem_ready.1 hi).1)
      simp only [Array.toList_setIfInBounds]; omega) h') (step _ _ _ i hI hi)⟩

def upd (f : Nat → Value) (d : Nat) (v : Value) : Nat → Value := fun k => cond (Nat.beq k d) v (f k)
theorem upd_same (f : Nat → Value) (d : Nat) (v : Value) : upd f d v d = v := by simp [upd]
theorem upd_ne (f : Nat → Value) {d k : Nat} (v : Value) (h : k ≠ d) : upd f d v k = f k := by
  unfold upd
  have : Nat.beq k d = false := by
    cases e : Nat.beq k d
    · rfl
    · exact absurd (Nat.eq_of_beq_eq_true e) h
  rw [this]; rfl
/-- A frame with open slots. -/
def tmOf (D : List Nat) (f : Nat → Value) : Nat → List Value → List Value
  | _, [] => []
  | k, x :: xs => cond (D.contains k) (f k) x :: tmOf D f (k + 1) xs
def frF (D : List Nat) (a0 : Act) (f : Nat → Value) : Act := ⟨(tmOf D f 0 a0.tmps.toList).toArray, a0.defers⟩
theorem tmOf_self (D : List Nat) (g : Nat → Value) : ∀ (l : List Value) (k : Nat), (∀ j (h : j < l.length), g (k + j) = l[j]) → tmOf D g k l = l
  | [], _, _ => rfl
  | x :: l, k, h => by
    have h0 := h 0 (by simp)
    simp at h0
    rw [tmOf, tmOf_self D g l (k + 1) (fun j hj => by have := h (j + 1) (by simpa using hj); simpa [Nat.add_assoc, Nat.add_comm 1 j] using this), h0]
    cases D.contains k <;> rfl
theorem frF_self (D : List Nat) (a0 : Act) : frF D a0 (fun k => a0.tmps.getD k undef) = a0 := by
  unfold frF
  rw [tmOf_self D _ _ 0 (fun j hj => by
    have hj' : j < a0.tmps.size := by simpa using hj
    simp [hj'])]
theorem tmOf_upd_lt (D : List Nat) (f : Nat → Value) (d : Nat) (v : Value) : ∀ (l : List Value) (k : Nat), d < k → tmOf D (upd f d v) k l = tmOf D f k l
  | [], _, _ => rfl
  | x :: l, k, h => by rw [tmOf, tmOf, tmOf_upd_lt D f d v l (k + 1) (by omega), upd_ne f v (by omega)]
theorem tmOf_upd (D : List Nat) (f : Nat → Value) (d : Nat) (v : Value) (hd : D.contains d = true) : ∀ (l : List Value) (k : Nat), k ≤ d → tmOf D (upd f d v) k l = (tmOf D f k l).set (d - k) v
  | [], _, _ => rfl
  | x :: l, k, h => by
    rcases Nat.lt_or_eq_of_le h with h1 | h1
    · rw [tmOf, tmOf, tmOf_upd D f d v hd l (k + 1) (by omega), upd_ne f v (by omega), show d - k = (d - (k + 1)) + 1 by omega, List.set_cons_succ]
    · subst h1
      rw [tmOf, tmOf, tmOf_upd_lt D f k v l (k + 1) (by omega), upd_same, Nat.sub_self, List.set_cons_zero, hd]; rfl
theorem tmOf_out (D : List Nat) (f : Nat → Value) (d : Nat) (v : Value) (hd : D.contains d = false) : ∀ (l : List Value) (k : Nat), tmOf D (upd f d v) k l = tmOf D f k l
  | [], _ => rfl
  | x :: l, k => by
    rw [tmOf, tmOf, tmOf_out D f d v hd l (k + 1)]
    by_cases e : k = d
    · subst e; rw [hd]; rfl
    · rw [upd_ne f v e]
/-- Where an operation's value lies. -/
def dstO (o : Oper) (j : Nat) : Nat := match o.dst with | some d => d | none => 1000 + j
def dstN (ops : Array Oper) (j : Nat) : Nat := match ops[j]? with | some o => dstO o j | none => 0
/-- What it waits for. -/
def depsO (md : Region.Mode) (o : Oper) : List Nat := (o.after.toList.filter fun e => Region.binds md e).map (·.on)
def okO (D : List Nat) (md : Region.Mode) (o : Oper) (j : Nat) : Bool := (match o.dst with | some d => D.contains d | none => !D.contains (1000 + j)) && (depsO md o).all (fun k => decide (k < j))
def okOs (D : List Nat) (md : Region.Mode) : List Oper → Nat → Bool
  | [], _ => true
  | o :: l, j => okO D md o j && okOs D md l (j + 1)
def dsts : List Oper → Nat → List Nat
  | [], _ => []
  | o :: l, j => dstO o j :: dsts l (j + 1)
def nodupB : List Nat → Bool
  | [] => true
  | x :: l => !l.contains x && nodupB l
theorem okOs_at {D : List Nat} {md : Region.Mode} : ∀ (l : List Oper) (k : Nat), okOs D md l k = true → ∀ j (h : j < l.length), okO D md l[j] (k + j) = true
  | [], _, _, j, h => by simp at h
  | o :: l, k, h0, j, h => by
    simp only [okOs, Bool.and_eq_true] at h0
    cases j with
    | zero => exact h0.1
    | succ j => have := okOs_at l (k + 1) h0.2 j (by simpa using h); simpa [Nat.add_assoc, Nat.add_comm 1 j] using this
theorem dsts_len : ∀ (l : List Oper) (k : Nat), (dsts l k).length = l.length
  | [], _ => rfl
  | _ :: l, k => by simp [dsts, dsts_len l (k + 1)]
theorem dsts_at : ∀ (l : List Oper) (k j : Nat) (h : j < l.length), (dsts l k)[j]'(by rw [dsts_len]; exact h) = dstO l[j] (k + j)
  | o :: l, k, 0, _ => rfl
  | o :: l, k, j + 1, h => by
    have := dsts_at l (k + 1) j (by simpa using h)
    simp only [dsts, List.getElem_cons_succ]
    rw [this, Nat.add_assoc, Nat.add_comm 1 j]
theorem nodupB_ne : ∀ (l : List Nat), nodupB l = true → ∀ i j (hi : i < l.length) (hj : j < l.length), i ≠ j → l[i] ≠ l[j]
  | [], _, i, _, hi, _, _ => by simp at hi
  | x :: l, h, i, j, hi, hj, hne => by
    simp only [nodupB, Bool.and_eq_true, Bool.not_eq_true', List.contains_eq_mem, decide_eq_false_iff_not] at h
    match i, j, hi, hj, hne with
    | 0, 0, _, _, hne => exact absurd rfl hne
    | 0, j + 1, _, hj, _ =>
      intro e
      simp only [List.getElem_cons_zero, List.getElem_cons_succ] at e
      exact h.1 (by rw [e]; exact List.getElem_mem _)
    | i + 1, 0, hi, _, _ =>
      intro e
      simp only [List.getElem_cons_zero, List.getElem_cons_succ] at e
      exact h.1 (by rw [← e]; exact List.getElem_mem _)
    | i + 1, j + 1, hi, hj, hne => exact nodupB_ne l h.2 i j (by simpa using hi) (by simpa using hj) (by omega)
section
variable {P : Program} {ops : Array Oper} {Q : Exit → Act → World → Prop} (D : List Nat) (a0 : Act) (w0 : World) (R : World → World → Prop) (V : Nat → Value → World → Prop)
/-- Each of these operations, once, wherever it comes. -/
def AllSt (P : Program) (ops : Array Oper) (Q : Exit → Act → World → Prop) (is : List Nat) : Prop :=
  ∀ i ∈ is, ∀ o, ops[i]? = some o → ∀ f w, Below w0.heap.size w0 w → (∀ j ∈ depsO .any o, V j (f (dstN ops j)) w) →
    wpOp P ops Q i (fun a' w' => ∃ v, a' = (frF D a0 f).put o.dst v ∧ Below w0.heap.size w w' ∧ R w w' ∧ V i v w') (frF D a0 f) w
variable {D a0 w0 R V}
theorem AllSt.nil : AllSt D a0 w0 R V P ops Q [] := fun i h => by cases h
theorem AllSt.cons {i : Nat} {o : Oper} {ds : List Nat} {is : List Nat} (ho : ops[i]? = some o) (hds : depsO .any o = ds)
    (h : ∀ (f : Nat → Value) (w : World) (K : Act → World → Prop), Hid (Below w0.heap.size w0 w) → (∀ j ∈ ds, V j (f (dstN ops j)) w) →
      Shut (∀ v w', Below w0.heap.size w w' → R w w' → V i v w' → K ((frF D a0 f).put o.dst v) w') →
      if Region.wanted o (yielded ops (frF D a0 f).tmps) = true then Oper.wp P o (frF D a0 f) w K Q else K ((frF D a0 f).put o.dst undef) w)
    (hs : AllSt D a0 w0 R V P ops Q is) : AllSt D a0 w0 R V P ops Q (i :: is) := fun j hj o' ho' f w hB hd => by
  rcases List.mem_cons.1 hj with rfl | hj
  · rw [ho] at ho'
    obtain rfl : o = o' := by simpa using ho'
    exact wpOp_step ho (fun K' hK => h f w K' hB (hds ▸ hd) (fun v w' h1 h2 h3 => hK _ _ ⟨v, rfl, h1, h2, h3⟩))
  · exact hs j hj o' ho' f w hB hd
/-- A drawn region. -/
theorem region_inv {id : Nat} (hm : P.follows .mixedOrders = true) (D : List Nat) (R : World → World → Prop) (V : Nat → Value → World → Prop)
    (hV : ∀ j v w w', R w w' → V j v w → V j v w') (hok : okOs D .any ops.toList 0 = true) (hnd : nodupB (dsts ops.toList 0) = true)
    (steps : AllSt D a0 w0 R V P ops Q (List.range ops.size))
    (done : ∀ f w, Below w0.heap.size w0 w → (∀ j, j < ops.size → V j (f (dstN ops j)) w) → Q .normal (frF D a0 f) w) : (Code.region id ops true).wp P Q a0 w0 := by
  refine wp_region_any hm (wpAny_inv (fun listed a w => listed.size = ops.size ∧ ∃ f, a = frF D a0 f ∧ Below w0.heap.size w0 w ∧ ∀ j, listed.getD j false = true → V j (f (dstN ops j)) w) ?_ ?_ _ _ _ _ (by simp [unl_rep]) ⟨by simp, fun k => a0.tmps.getD k undef, (frF_self D a0).symm, (Below.refl _ _).drew, fun j hj => ?_⟩)
  · rintro listed a w i ⟨hsz, f, rfl, hB, hL⟩ hi
    obtain ⟨h0, o, ho, hall⟩ := mem_ready.1 hi
    have hil : i < ops.size := (Array.getElem?_eq_some_iff.1 ho).1
    have hge : ops.toList[i]'(by simpa using hil) = o := by
      have := (Array.getElem?_eq_some_iff.1 ho).2
      simpa using this
    have hko := okOs_at _ 0 hok i (by simpa using hil)
    rw [hge, Nat.zero_add] at hko
    have hdn : dstN ops i = dstO o i := by simp [dstN, ho]
    refine wpOp_mono ?_ (steps i (List.mem_range.2 hil) o ho f w hB (fun j hj => ?_))
    · rintro a' w' ⟨v, rfl, hB', hR, hVi⟩
      refine ⟨by simp [hsz], upd f (dstN ops i) v, ?_, hB.trans hB', fun j hj => ?_⟩
      · rw [hdn]
        unfold okO at hko
        unfold dstO
        cases hd : o.dst with
        | none =>
          simp only [hd, Bool.and_eq_true, Bool.not_eq_true'] at hko
          show frF D a0 f = _
          unfold frF
          rw [tmOf_out D f _ v hko.1]
        | some d =>
          simp only [hd, Bool.and_eq_true] at hko
          show (⟨(tmOf D f 0 a0.tmps.toList).toArray.setIfInBounds d v, a0.defers⟩ : Act) = _
          unfold frF
          rw [tmOf_upd D f d v hko.1 _ 0 (Nat.zero_le _)]
          simp
      · by_cases e : j = i
        · subst e; rw [upd_same]; exact hVi
        · have hj2 : listed.getD j false = true := by
            rw [getD_set_ne false (Ne.symm e)] at hj; exact hj
          have hjl : j < ops.size := by
            rw [← hsz]
            rcases Nat.lt_or_ge j listed.size with h | h
            · exact h
            · simp [Array.getElem?_eq_none h] at hj2
          have hne : dstN ops j ≠ dstN ops i := by
            have h1 := nodupB_ne _ hnd j i (by rw [dsts_len]; simpa using hjl) (by rw [dsts_len]; simpa using hil) e
            rw [dsts_at _ 0 j (by simpa using hjl), dsts_at _ 0 i (by simpa using hil)] at h1
            simpa [dstN, hjl, hil] using h1
          rw [upd_ne f v hne]
          exact hV _ _ _ _ hR (hL j hj2)
    · unfold depsO at hj
      obtain ⟨e, he, rfl⟩ := List.mem_map.1 hj
      obtain ⟨he1, he2⟩ := List.mem_filter.1 he
      exact hL _ (hall e (by simpa using he1) (by simpa using he2))
  · rintro listed a w ⟨hsz, f, rfl, hB, hL⟩ hr
    refine done f w hB (fun j hj => hL j ?_)
    induction j using Nat.strongRecOn with
    | _ j ih =>
      cases hb : listed.getD j false with
      | true => rfl
      | false =>
        exfalso
        have hjl : j < listed.size := by omega
        have hb' : listed.getD j true = false := by simpa [hjl] using hb
        have hko := okOs_at _ 0 hok j (by simpa using hj)
        rw [Nat.zero_add] at hko
        have hmem : j ∈ Region.ready .any ops listed := by
          rw [mem_ready]
          refine ⟨hb', ops[j], by simp [hj], fun e he hbd => ?_⟩
          unfold okO at hko
          rw [Bool.and_eq_true, List.all_eq_true] at hko
          have hlt := hko.2 e.on (by
            unfold depsO
            rw [List.mem_map]
            exact ⟨e, List.mem_filter.2 ⟨by simpa using he, hbd⟩, rfl⟩)
          simp only [decide_eq_true_eq] at hlt
          exact ih e.on hlt (by omega)
        rw [hr] at hmem
        cases hmem
  · exfalso
    rcases Nat.lt_or_ge j ops.size with h | h
    · simp [h] at hj
    · simp [h] at hj
end
end Go.Proofs.Ytbadjigfcncfcaa

/- What the fixed calls of layer 14's 'alive' come to. -/
namespace Go.Proofs.Ytbadjigfcncfcaa
open Go.RowKit Go.Joins

def ag1 : Ag := ⟨1, false, 0, 0, 0⟩
theorem cn1 : CnOk ag1 := ⟨by decide, by decide⟩
/-- What is kept from one operation of a region to the next. -/
structure Rm (w w' : World) : Prop where
  s : w.heap.size ≤ w'.heap.size
  c : ∀ a v, w.cell? a = some v → w'.cell? a = some v
  h : ∀ g s, w.shape? g = some s → w'.shape? g = some s
theorem Rm.of_below {w w' : World} (h : Below w.heap.size w w') : Rm w w' := ⟨h.size, fun _ _ q => (h.cell (cell_block q).1).trans q, fun g s q => by
  have hl : g < w.heap.size := by
    rcases Nat.lt_or_ge g w.heap.size with h' | h'
    · exact h'
    · unfold World.shape? at q; rw [Array.getElem?_eq_none h'] at q; cases q
  unfold World.shape? at q ⊢
  rw [h.block g hl]; exact q⟩
theorem Reads.rm {w w' : World} {v : Value} {l : List UInt8} (h : Reads w v l) (r : Rm w w') : Reads w' v l := by
  rcases h with h | ⟨b, off, cap, h1, h2, h3, h4, h5, h6⟩
  · exact .inl h
  · exact .inr ⟨b, off, cap, h1, h2, h3, h4, Nat.lt_of_lt_of_le h5 r.s, fun j hj => r.c _ _ (h6 j hj)⟩
theorem EReads.rm {w w' : World} {v : Value} {L : List En} (h : EReads w v L) (r : Rm w w') : EReads w' v L := by
  obtain ⟨a, cap, rfl, h1, h2, h3⟩ := h
  refine ⟨a, cap, rfl, h1, h2, ?_⟩
  rcases h3 with h3 | ⟨b, off, h4, h5, h6⟩
  · exact .inl h3
  · refine .inr ⟨b, off, h4, Nat.lt_of_lt_of_le h5 r.s, fun j hj => ?_⟩
    obtain ⟨kv, g1, g2, g3⟩ := h6 j hj
    exact ⟨kv, fun i hi => r.c _ _ (g1 i hi), g2.rm r, g3⟩
/-- What an operation yields. -/
inductive Sp
  | raw (x : UInt8)
  | byt (x : UInt8)
  | agg
  | ent (x : UInt8)
  | row (x y : UInt8)
def spOk (n0 : Nat) : Sp → Value → World → Prop
  | .raw x, v, w => ∃ g, v = .slice (some ⟨g, 0, none⟩) 1 1 ∧ n0 ≤ g ∧ w.shape? g = some (5, 1) ∧ w.cell? ⟨g, 0, none⟩ = some (bc x)
  | .byt x, v, w => ∃ g, v = .slice (some ⟨g, 0, none⟩) 1 1 ∧ Reads w v [x]
  | .agg, v, _ => v = .agg #[.int .u64 1, .bool false, .int .i64 0, .int .u64 0, .int .i64 0, .int .i64 0]
  | .ent x, v, w => ∃ g, v = .agg #[.slice (some ⟨g, 0, none⟩) 1 1, .int .u64 1, .bool false, .int .i64 0, .int .u64 0, .int .i64 0, .int .i64 0] ∧ Reads w (.slice (some ⟨g, 0, none⟩) 1 1) [x]
  | .row x y, v, w => ∃ g, v = .slice (some ⟨g, 0, none⟩) 2 2 ∧ EReads w v [([x], ag1), ([y], ag1)]
theorem spOk.rm {n0 : Nat} (s : Sp) (v : Value) (w w' : World) (r : Rm w w') (h : spOk n0 s v w) : spOk n0 s v w' := by
  cases s with
  | raw x => obtain ⟨g, h1, h2, h3, h4⟩ := h; exact ⟨g, h1, h2, r.h _ _ h3, r.c _ _ h4⟩
  | byt x => obtain ⟨g, h1, h2⟩ := h; exact ⟨g, h1, h2.rm r⟩
  | agg => exact h
  | ent x => obtain ⟨g, h1, h2⟩ := h; exact ⟨g, h1, h2.rm r⟩
  | row x y => obtain ⟨g, h1, h2⟩ := h; exact ⟨g, h1, h2.rm r⟩
def frz : Obj → Obj
  | .cells c e (lo, hi) => .cells c e (if (lo == hi) = true then (1, 2) else (min lo 1, max hi 2))
  | o => o
theorem freeze_heap (w : World) (g k : Nat) : (w.freeze ⟨g, 1, none⟩ 1).heap[k]? = if g = k then (w.heap[k]?).map frz else w.heap[k]? := by
  unfold World.freeze
  rw [if_neg (by decide)]
  show (w.heap.modify g _)[k]? = _
  rw [Array.getElem?_modify]
  rfl
/-- The mark of a constant text's bytes. -/
theorem run_mark {w : World} {g : Nat} (h : w.shape? g = some (5, 1)) : ∃ w', (convert 57 57 (.slice (some ⟨g, 0, none⟩) 1 1)).run Try.prog w = .ok (.slice (some ⟨g, 0, none⟩) 1 1) w' ∧ Rm w w' ∧ ∀ B, B ≤ g → Below B w w' := by
  refine ⟨w.freeze ⟨g, 1, none⟩ 1, ?_, ?_, ?_⟩
  · simp [convert, run_underlying Try.underlying57, run_underlying Try.underlying5, markStringish, h]
  · refine ⟨by simp [World.freeze], fun a v q => ?_, fun k s q => ?_⟩
    · unfold World.cell? at q ⊢
      rw [freeze_heap]
      cases hk : w.heap[a.block]? with
      | none => rw [hk] at q; cases q
      | some o =>
        rw [hk] at q
        by_cases e : g = a.block
        · rw [if_pos e]
          cases o with
          | cells c el fr =>
            obtain ⟨f1, f2⟩ := fr
            exact q
          | _ => cases q
        · rw [if_neg e]; exact q
    · unfold World.shape? at q ⊢
      rw [freeze_heap]
      cases hk : w.heap[k]? with
      | none => rw [hk] at q; cases q
      | some o =>
        rw [hk] at q
        by_cases e : g = k
        · rw [if_pos e]
          cases o with
          | cells c el fr =>
            obtain ⟨f1, f2⟩ := fr
            exact q
          | _ => cases q
        · rw [if_neg e]; exact q
  · intro B hB
    exact ⟨rfl, rfl, rfl, by simp [World.freeze], fun k hk => by rw [freeze_heap, if_neg (by omega)]⟩
theorem two_rows (w : World) (kv kv' : Value) (x y : UInt8) (h : Reads w kv [x]) (h' : Reads w kv' [y]) : EReads (w.alloc (.cells #[kv, .int .u64 1, .bool false, .int .i64 0, .int .u64 0, .int .i64 0, .int .i64 0, kv', .int .u64 1, .bool false, .int .i64 0, .int .u64 0, .int .i64 0, .int .i64 0] 59)) (.slice (some ⟨w.heap.size, 0, none⟩) 2 2) [([x], ag1), ([y], ag1)] := by
  have hb := (Below.refl w.heap.size w).alloc (Nat.le_refl _) (.cells #[kv, .int .u64 1, .bool false, .int .i64 0, .int .u64 0, .int .i64 0, .int .i64 0, kv', .int .u64 1, .bool false, .int .i64 0, .int .u64 0, .int .i64 0, .int .i64 0] 59)
  refine ⟨_, 2, rfl, by simp, by simp [maxLen], .inr ⟨w.heap.size, 0, rfl, by simp, fun j hj => ?_⟩⟩
  have hj2 : j < 2 := hj
  match j, hj2 with
  | 0, _ =>
    refine ⟨kv, fun i hi => ?_, h.below hb, cn1⟩
    rw [cell_of_block (heap_alloc_new _ _)]
    match i, hi with
    | 0, _ | 1, _ | 2, _ | 3, _ | 4, _ | 5, _ | 6, _ => rfl
  | 1, _ =>
    refine ⟨kv', fun i hi => ?_, h'.below hb, cn1⟩
    rw [cell_of_block (heap_alloc_new _ _)]
    match i, hi with
    | 0, _ | 1, _ | 2, _ | 3, _ | 4, _ | 5, _ | 6, _ => rfl
def alS : List Sp := [.raw 97, .byt 97, .agg, .ent 97, .raw 99, .byt 99, .agg, .ent 99, .row 97 99, .raw 98, .byt 98, .agg, .ent 98, .raw 99, .byt 99, .agg, .ent 99, .row 98 99, .row 97 99, .row 98 99]
/-- The rows of 'alive'. -/
def alR : List (List En) := [[([97], ag1), ([99], ag1)], [([98], ag1), ([99], ag1)]]
theorem alR_ok : rowsF alR = 0 := by decide
theorem alR_len : ∀ r ∈ alR, r.length ≤ 100000 := by decide
theorem alR_key : ∀ r ∈ alR, ∀ x ∈ r, x.1.length ≤ 100000 := by
  intro r hr x hx
  simp only [alR, List.mem_cons, List.not_mem_nil, or_false] at hr
  rcases hr with rfl | rfl <;> (simp only [List.mem_cons, List.not_mem_nil, or_false] at hx; rcases hx with rfl | rfl <;> decide)
theorem alR_seq : seqF alR = [(([97], 0), ag1), (([98], 1), ag1), (([99], 0), ag1), (([99], 1), ag1)] := by
  refine pw_unique (seqF_pw alR_ok) ?_ ((srtG_perm _).trans ?_)
  · simp only [List.pairwise_cons, List.Pairwise.nil, List.mem_cons, List.not_mem_nil, or_false, and_true]
    unfold ltG
    refine ⟨?_, ?_, ?_, ?_⟩
    · rintro a (rfl | rfl | rfl) <;> decide
    · rintro a (rfl | rfl) <;> decide
    · rintro a rfl; decide
    · intro a h; cases h
  · exact List.Perm.cons _ (List.Perm.swap _ _ _)
theorem alR_all : allF alR = [([97], ag1), ([98], ag1), ([99], mrg ag1 ag1)] := by unfold allF; rw [alR_seq]; rfl
theorem three_of {α : Type} : ∀ {xs : List α}, xs.length = 3 → ∃ a b c, xs = [a, b, c]
  | [a, b, c], _ => ⟨a, b, c, rfl⟩
theorem two_lists {w : World} {a b : Value} {L M : List En} (ha : EReads w a L) (hb : EReads w b M) : RReads (w.alloc (.cells #[a, b] 25)) (.slice (some ⟨w.heap.size, 0, none⟩) 2 2) [L, M] := by
  have hbl := (Below.refl w.heap.size w).alloc (Nat.le_refl _) (.cells #[a, b] 25)
  refine ⟨_, 2, rfl, by simp, by simp [maxLen], .inr ⟨w.heap.size, 0, rfl, by simp, fun j hj => ?_⟩⟩
  have hj2 : j < 2 := hj
  match j, hj2 with
  | 0, _ => exact ⟨a, by rw [cell_of_block (heap_alloc_new _ _)]; rfl, ha.below hbl⟩
  | 1, _ => exact ⟨b, by rw [cell_of_block (heap_alloc_new _ _)]; rfl, hb.below hbl⟩
theorem one_list {w : World} {a : Value} {L : List En} (ha : EReads w a L) : RReads (w.alloc (.cells #[a] 25)) (.slice (some ⟨w.heap.size, 0, none⟩) 1 1) [L] := by
  have hbl := (Below.refl w.heap.size w).alloc (Nat.le_refl _) (.cells #[a] 25)
  refine ⟨_, 1, rfl, by simp, by simp [maxLen], .inr ⟨w.heap.size, 0, rfl, by simp, fun j hj => ?_⟩⟩
  have hj2 : j < 1 := hj
  match j, hj2 with
  | 0, _ => exact ⟨a, by rw [cell_of_block (heap_alloc_new _ _)]; rfl, ha.below hbl⟩
/-- Those that are none. -/
def alN : List (List En) := [[([99], ag1), ([97], ag1)]]
theorem alN_bad : rowsF alN = 50 := by decide
theorem alN_len : ∀ r ∈ alN, r.length ≤ 100000 := by decide
theorem alN_key : ∀ r ∈ alN, ∀ x ∈ r, x.1.length ≤ 100000 := by
  intro r hr x hx
  simp only [alN, List.mem_cons, List.not_mem_nil, or_false] at hr
  subst hr
  simp only [List.mem_cons, List.not_mem_nil, or_false] at hx
  rcases hx with rfl | rfl <;> decide
def alV (n0 : Nat) (j : Nat) (v : Value) (w : World) : Prop := spOk n0 (alS.getD j .agg) v w
set_option maxRecDepth 100000 in
set_option maxHeartbeats 2000000 in
theorem alive_any (w : World) : Calls Try.prog 10 #[] w fun e w' => e = .returned (.bool true) ∧ Below w.heap.size w w' := by
  go_enter Try.func10, Try.ntmps10
  go_wp2_with fail
  have HC : Hid (∀ W, Below (w.heap.size + 1) (w.alloc (.cells #[.int .u64 1, .bool false, .int .i64 0, .int .u64 0, .int .i64 0, .int .i64 0] 53)) W → W.heap[w.heap.size]? = some (.cells #[.int .u64 1, .bool false, .int .i64 0, .int .u64 0, .int .i64 0, .int .i64 0] 53)) := fun W hW => (hW.block _ (by omega)).trans (heap_alloc_new _ _)
  have hsz : (w.alloc (.cells #[.int .u64 1, .bool false, .int .i64 0, .int .u64 0, .int .i64 0, .int .i64 0] 53)).heap.size = w.heap.size + 1 := by simp
  refine region_inv (by kernel_rfl) [9, 10, 11, 12, 13, 14, 15, 16, 17, 18, 19, 20, 21, 22, 23, 24, 25, 26, 2, 3] Rm (alV (w.heap.size + 1)) (fun j v A B hr hv => spOk.rm _ v A B hr hv) (by kernel_rfl) (by kernel_rfl) ?steps ?done
  case done =>
    intro f w1 hB hd
    have h18 : spOk (w.heap.size + 1) (.row 97 99) (f 2) w1 := hd 18 (by decide)
    have h19 : spOk (w.heap.size + 1) (.row 98 99) (f 3) w1 := hd 19 (by decide)
    obtain ⟨ga, hga, hra⟩ := h18
    obtain ⟨gb, hgb, hrb⟩ := h19
    rw [hga] at hra
    rw [hgb] at hrb
    have HB1 : Hid (Below w.heap.size w w1) := ((Below.refl w.heap.size w).alloc (Nat.le_refl _) _).trans (hB.mono (by simp))
    have HRA : Hid (EReads w1 (.slice (some ⟨ga, 0, none⟩) 2 2) [([97], ag1), ([99], ag1)]) := hra
    have HRB : Hid (EReads w1 (.slice (some ⟨gb, 0, none⟩) 2 2) [([98], ag1), ([99], ag1)]) := hrb
    simp only [frF, tmOf, List.contains_cons, List.contains_nil, Nat.reduceAdd, Nat.zero_add, Nat.reduceBEq, Bool.or_false, Bool.false_or, cond_true, cond_false]
    rw [hga, hgb]
    clear hga hgb
    clear hd hB HC hsz hra hrb
    have HRR : Hid (RReads (w1.alloc (.cells #[.slice (some ⟨ga, 0, none⟩) 2 2, .slice (some ⟨gb, 0, none⟩) 2 2] 25)) (.slice (some ⟨w1.heap.size, 0, none⟩) 2 2) alR) := two_lists HRA.out HRB.out
    have HBb : Hid (Below w1.heap.size w1 (w1.alloc (.cells #[.slice (some ⟨ga, 0, none⟩) 2 2, .slice (some ⟨gb, 0, none⟩) 2 2] 25))) := (Below.refl _ _).alloc (Nat.le_refl _) _
    go_wp2_with fail
    refine (all_some _ alR _ HRR.out (by decide) alR_len alR_key).mono ?_
    rintro e w2 ⟨hb2, ⟨hne, _⟩ | ⟨_, v, xs, rfl, ho2, hm2, _⟩⟩
    · exact absurd alR_ok hne
    have HB12 : Hid (Below w1.heap.size w1 w2) := HBb.out.trans (hb2.mono HBb.out.size)
    have HB2 : Hid (Below w.heap.size w w2) := HB1.out.trans (HB12.out.mono HB1.out.size)
    rw [alR_all] at hm2
    obtain ⟨x0, x1, x2, rfl⟩ : ∃ x0 x1 x2, xs = [x0, x1, x2] := three_of (by have := congrArg List.length hm2; simpa using this)
    have hx2 : x2.a = mrg ag1 ag1 := by
      have h9 := congrArg (fun l => (l.getD 2 ([], agZ)).2) hm2
      simpa [evE] using h9
    obtain ⟨av, cv, rfl, _, _, hat⟩ := ho2.at
    obtain ⟨g, rfl, _, hgs, hcell⟩ := hat (by simp)
    have k1 := (hcell 2 (by simp) 1 (by decide)).1
    simp only [List.getElem_cons_zero, List.getElem_cons_succ, c7, hx2] at k1
    have hmc : (mrg ag1 ag1).c = 2 := rfl
    rw [hmc] at k1
    have HK1 : Hid (w2.cell? ⟨g, 2 * 7 + 1, none⟩ = some (.int .u64 2)) := k1
    obtain ⟨kv0, hc0, hr0, _⟩ := eReads_at (HRA.out.below HB12.out) (k := 0) (by decide) rfl
    obtain ⟨kv1, hc1, hr1, _⟩ := eReads_at (HRA.out.below HB12.out) (k := 1) (by decide) rfl
    obtain ⟨k0a, k0c, hk0, _⟩ := hr0.form
    obtain ⟨k1a, k1c, hk1, _⟩ := hr1.form
    subst hk0 hk1
    have HE0 : Hid (Reads w2 (.slice k0a 1 k0c) [97]) := hr0
    have HE1 : Hid (Reads w2 (.slice k1a 1 k1c) [99]) := hr1
    have p0 : w2.cell? ⟨ga, 0, none⟩ = some (.slice k0a 1 k0c) := hc0 0 (by decide)
    have p1 : w2.cell? ⟨ga, 1, none⟩ = some (.int .u64 1) := hc0 1 (by decide)
    have p2 : w2.cell? ⟨ga, 2, none⟩ = some (.bool false) := hc0 2 (by decide)
    have p3 : w2.cell? ⟨ga, 3, none⟩ = some (.int .i64 0) := hc0 3 (by decide)
    have p4 : w2.cell? ⟨ga, 4, none⟩ = some (.int .u64 0) := hc0 4 (by decide)
    have p5 : w2.cell? ⟨ga, 5, none⟩ = some (.int .i64 0) := hc0 5 (by decide)
    have p6 : w2.cell? ⟨ga, 6, none⟩ = some (.int .i64 0) := hc0 6 (by decide)
    have q0 : w2.cell? ⟨ga, 7, none⟩ = some (.slice k1a 1 k1c) := hc1 0 (by decide)
    have q1 : w2.cell? ⟨ga, 8, none⟩ = some (.int .u64 1) := hc1 1 (by decide)
    have q2 : w2.cell? ⟨ga, 9, none⟩ = some (.bool false) := hc1 2 (by decide)
    have q3 : w2.cell? ⟨ga, 10, none⟩ = some (.int .i64 0) := hc1 3 (by decide)
    have q4 : w2.cell? ⟨ga, 11, none⟩ = some (.int .u64 0) := hc1 4 (by decide)
    have q5 : w2.cell? ⟨ga, 12, none⟩ = some (.int .i64 0) := hc1 5 (by decide)
    have q6 : w2.cell? ⟨ga, 13, none⟩ = some (.int .i64 0) := hc1 6 (by decide)
    have hgl : ga < w2.heap.size := (cell_block p0).1
    clear hb2 ho2 hm2 hat hcell hc0 hc1 hr0 hr1 hmc k1 hx2
    go_wp2_with fail
    refine wp_region_noPanic ?_
    refine wp_region_held_drew (S := (fun w' => Below w2.heap.size w2 w')) (by kernel_rfl) ?_ (fun hHeld => ?_)
    · exact (Below.refl _ _).drew
    refine wpAnyH_take (i := 0) (v := .slice (some ⟨ga, 0, none⟩) 2 2) rfl (by kernel_rfl) (by kernel_rfl) (by kernel_rfl) (fun _ _ _ h => h) (Or.inl ⟨by rfl, ?_⟩) (by assumption) ?_
    · (intro w1 hSw; (try dsimp only at hSw); go_simp)
    simp only [List.getElem_toArray, List.getElem_cons_zero, Act.put, List.setIfInBounds_toArray, List.set_cons_zero, List.set_cons_succ]
    refine wpAnyH_take (i := 1) (v := .pointer (some ⟨ga, 7, none⟩)) rfl (by kernel_rfl) (by kernel_rfl) (by kernel_rfl) (fun _ _ _ h => h) (Or.inl ⟨by rfl, ?_⟩) (by assumption) ?_
    · (intro w1 hSw; (try dsimp only at hSw); go_simp)
    simp only [List.getElem_toArray, List.getElem_cons_succ, List.getElem_cons_zero, Act.put, List.setIfInBounds_toArray, List.set_cons_zero, List.set_cons_succ]
    refine wpAnyH_take (i := 2) (v := .agg #[.slice k1a 1 k1c, .int .u64 1, .bool false, .int .i64 0, .int .u64 0, .int .i64 0, .int .i64 0]) rfl (by kernel_rfl) (by kernel_rfl) (by kernel_rfl) (fun _ _ _ h => h) (Or.inl ⟨by rfl, ?_⟩) (by assumption) ?_
    · (intro w1 hSw; (try dsimp only at hSw); have r0 := (hSw.cell (p := ⟨ga, 7, none⟩) hgl).trans q0; have r1 := (hSw.cell (p := ⟨ga, 8, none⟩) hgl).trans q1; have r2 := (hSw.cell (p := ⟨ga, 9, none⟩) hgl).trans q2; have r3 := (hSw.cell (p := ⟨ga, 10, none⟩) hgl).trans q3; have r4 := (hSw.cell (p := ⟨ga, 11, none⟩) hgl).trans q4; have r5 := (hSw.cell (p := ⟨ga, 12, none⟩) hgl).trans q5; have r6 := (hSw.cell (p := ⟨ga, 13, none⟩) hgl).trans q6; go_simp)
    simp only [List.getElem_toArray, List.getElem_cons_succ, List.getElem_cons_zero, Act.put, List.setIfInBounds_toArray, List.set_cons_zero, List.set_cons_succ]
    refine wpAnyH_take (i := 3) (v := .slice (some ⟨ga, 0, none⟩) 2 2) rfl (by kernel_rfl) (by kernel_rfl) (by kernel_rfl) (fun _ _ _ h => h) (Or.inl ⟨by rfl, ?_⟩) (by assumption) ?_
    · (intro w1 hSw; (try dsimp only at hSw); go_simp)
    simp only [List.getElem_toArray, List.getElem_cons_succ, List.getElem_cons_zero, Act.put, List.setIfInBounds_toArray, List.set_cons_zero, List.set_cons_succ]
    refine wpAnyH_take (i := 4) (v := .pointer (some ⟨ga, 0, none⟩)) rfl (by kernel_rfl) (by kernel_rfl) (by kernel_rfl) (fun _ _ _ h => h) (Or.inl ⟨by rfl, ?_⟩) (by assumption) ?_
    · (intro w1 hSw; (try dsimp only at hSw); go_simp)
    simp only [List.getElem_toArray, List.getElem_cons_succ, List.getElem_cons_zero, Act.put, List.setIfInBounds_toArray, List.set_cons_zero, List.set_cons_succ]
    refine wpAnyH_take (i := 5) (v := .agg #[.slice k0a 1 k0c, .int .u64 1, .bool false, .int .i64 0, .int .u64 0, .int .i64 0, .int .i64 0]) rfl (by kernel_rfl) (by kernel_rfl) (by kernel_rfl) (fun _ _ _ h => h) (Or.inl ⟨by rfl, ?_⟩) (by assumption) ?_
    · (intro w1 hSw; (try dsimp only at hSw); have r0 := (hSw.cell (p := ⟨ga, 0, none⟩) hgl).trans p0; have r1 := (hSw.cell (p := ⟨ga, 1, none⟩) hgl).trans p1; have r2 := (hSw.cell (p := ⟨ga, 2, none⟩) hgl).trans p2; have r3 := (hSw.cell (p := ⟨ga, 3, none⟩) hgl).trans p3; have r4 := (hSw.cell (p := ⟨ga, 4, none⟩) hgl).trans p4; have r5 := (hSw.cell (p := ⟨ga, 5, none⟩) hgl).trans p5; have r6 := (hSw.cell (p := ⟨ga, 6, none⟩) hgl).trans p6; go_simp)
    simp only [List.getElem_toArray, List.getElem_cons_succ, List.getElem_cons_zero, Act.put, List.setIfInBounds_toArray, List.set_cons_zero, List.set_cons_succ]
    refine wpAnyH_ready (rs := [6]) (by kernel_rfl) (by simp) ?_
    refine AllReadyH.cons (o := _) rfl (fun K hK => ?_) AllReadyH.nil
    go_simp
    refine hK.out _ _ ?_ (fun hHeld => ?_)
    · exact (((Below.refl w2.heap.size w2).alloc (Nat.le_refl _) _)).drew
    clear hK K
    refine wpAnyH_ready (rs := [7]) (by kernel_rfl) (by simp) ?_
    refine AllReadyH.cons (o := _) rfl (fun K hK => ?_) AllReadyH.nil
    go_simp
    refine hK.out _ _ ?_ (fun hHeld => ?_)
    · exact (((Below.refl w2.heap.size w2).alloc (Nat.le_refl _) _).alloc (by simp) _).drew
    clear hK K
    obtain ⟨w3, HW3⟩ := hid_ex ((w2.alloc (.cells #[.slice k1a 1 k1c, .int .u64 1, .bool false, .int .i64 0, .int .u64 0, .int .i64 0, .int .i64 0, .slice k0a 1 k0c, .int .u64 1, .bool false, .int .i64 0, .int .u64 0, .int .i64 0, .int .i64 0] 59)).alloc (.cells #[.slice (some ⟨w2.heap.size, 0, none⟩) 2 2] 25))
    have HR3 : Hid (RReads w3.drew (.slice (some ⟨w2.heap.size + 1, 0, none⟩) 1 1) alN) := by
      have h9 := one_list (two_rows w2 _ _ 99 97 HE1.out HE0.out)
      rw [World.size_alloc] at h9
      rw [HW3.out]
      exact h9.below (Below.refl _ _).drew
    have hb3 : Below w2.heap.size w2 w3 := by rw [HW3.out]; exact ((Below.refl w2.heap.size w2).alloc (Nat.le_refl _) _).alloc (by simp) _
    have HB3 : Hid _ := hb3
    have hsz3 : w3.heap.size = w2.heap.size + 2 := by rw [HW3.out]; simp
    rw [← HW3.out] at hHeld ⊢
    refine wpAnyH_ready (rs := [8]) (by kernel_rfl) (by simp) ?_
    refine AllReadyH.cons (o := _) rfl (fun K hK => ?_) AllReadyH.nil
    go_simp
    refine (new_any _ alN _ HR3.out (by decide) alN_len alN_key).mono ?_
    rintro e w4 ⟨hb4, ⟨hne, rfl⟩ | ⟨hz, _⟩⟩
    · have hB4 : Below w2.heap.size w2 w4 := (HB3.out.drew).trans (hb4.mono (by show w2.heap.size ≤ w3.heap.size; omega))
      rw [alN_bad]
      go_simp
      refine hK.out _ _ ?_ (fun hHeld => ?_)
      · exact hB4
      clear hK K
      refine wpAnyH_take (i := 9) (v := .tuple #[.pointer none, .int .i64 50]) rfl (by kernel_rfl) (by kernel_rfl) (by kernel_rfl) (fun _ _ _ h => h) (Or.inl ⟨by rfl, ?_⟩) (by assumption) ?_
      · (intro w1 hSw; (try dsimp only at hSw); go_simp)
      simp only [List.getElem_toArray, List.getElem_cons_succ, List.getElem_cons_zero, Act.put, List.setIfInBounds_toArray, List.set_cons_zero, List.set_cons_succ]
      refine wpAnyH_take (i := 10) (v := .pointer none) rfl (by kernel_rfl) (by kernel_rfl) (by kernel_rfl) (fun _ _ _ h => h) (Or.inl ⟨by rfl, ?_⟩) (by assumption) ?_
      · (intro w1 hSw; (try dsimp only at hSw); go_simp)
      simp only [List.getElem_toArray, List.getElem_cons_succ, List.getElem_cons_zero, Act.put, List.setIfInBounds_toArray, List.set_cons_zero, List.set_cons_succ]
      refine wpAnyH_take (i := 11) (v := .int .i64 50) rfl (by kernel_rfl) (by kernel_rfl) (by kernel_rfl) (fun _ _ _ h => h) (Or.inl ⟨by rfl, ?_⟩) (by assumption) ?_
      · (intro w1 hSw; (try dsimp only at hSw); go_simp)
      simp only [List.getElem_toArray, List.getElem_cons_succ, List.getElem_cons_zero, Act.put, List.setIfInBounds_toArray, List.set_cons_zero, List.set_cons_succ]
      refine wpAnyH_take (i := 12) (v := .pointer none) rfl (by kernel_rfl) (by kernel_rfl) (by kernel_rfl) (fun _ _ _ h => h) (Or.inl ⟨by rfl, ?_⟩) (by assumption) ?_
      · (intro w1 hSw; (try dsimp only at hSw); go_simp)
      simp only [List.getElem_toArray, List.getElem_cons_succ, List.getElem_cons_zero, Act.put, List.setIfInBounds_toArray, List.set_cons_zero, List.set_cons_succ]
      refine wpAnyH_take (i := 13) (v := .int .i64 50) rfl (by kernel_rfl) (by kernel_rfl) (by kernel_rfl) (fun _ _ _ h => h) (Or.inl ⟨by rfl, ?_⟩) (by assumption) ?_
      · (intro w1 hSw; (try dsimp only at hSw); go_simp)
      simp only [List.getElem_toArray, List.getElem_cons_succ, List.getElem_cons_zero, Act.put, List.setIfInBounds_toArray, List.set_cons_zero, List.set_cons_succ]
      refine wpAnyH_done (by kernel_rfl) ?_ _
      refine NoPanic.normal ?_
      have HB4 : Hid (Below w.heap.size w w4) := HB2.out.trans (hB4.mono HB2.out.size)
      have k4 : w4.cell? ⟨g, 15, none⟩ = some (.int .u64 2) := (hB4.cell (p := ⟨g, 15, none⟩) hgs).trans HK1.out
      clear hB4 hb4
      go_wp2_with fail
      go_ret
      exact ⟨rfl, HB4.out⟩
    · exact absurd hz (by rw [alN_bad]; decide)
  case steps =>
    show AllSt _ _ _ _ _ _ _ _ [0, 1, 2, 3, 4, 5, 6, 7, 8, 9, 10, 11, 12, 13, 14, 15, 16, 17, 18, 19]
    refine AllSt.cons (o := _) (ds := []) rfl (by kernel_rfl) ?_ ?_
    · intro f w1 K HB hd hK
      clear hd
      generalize hA : frF _ _ f = A at hK ⊢
      simp only [List.getElem_toArray, List.getElem_cons_zero] at hK ⊢
      clear hA
      have hb := (Below.refl w1.heap.size w1).alloc (Nat.le_refl _) (.cells #[.int .u8 97] 5)
      have hn : (w.heap.size + 1) ≤ w1.heap.size := by have := HB.out.size; omega
      have hK2 := hK.out (.slice (some ⟨w1.heap.size, 0, none⟩) 1 1) _ (hb.mono (by omega)) (Rm.of_below hb) ⟨w1.heap.size, rfl, hn, by unfold World.shape?; rw [heap_alloc_new]; rfl, by rw [cell_of_block (heap_alloc_new _ _)]; rfl⟩
      clear hK
      go_simp
      exact hK2
    refine AllSt.cons (o := _) (ds := [0]) rfl (by kernel_rfl) ?_ ?_
    · intro f w1 K HB hd hK
      have h0 : spOk (w.heap.size + 1) (.raw 97) (f 9) w1 := hd 0 (by simp)
      clear hd
      generalize hA : frF _ _ f = A at hK ⊢
      simp only [List.getElem_toArray, List.getElem_cons_succ, List.getElem_cons_zero] at hK ⊢
      have e9 : A.tmps[9]?.getD undef = f 9 := by rw [← hA]; rfl
      clear hA
      obtain ⟨g, hg, hn, hs, hc⟩ := h0
      rw [hg] at e9
      obtain ⟨w2, hr, hrm, hbl⟩ := run_mark hs
      have hrd : Reads w2 (.slice (some ⟨g, 0, none⟩) 1 1) [97] := .inr ⟨g, 0, 1, rfl, by simp, by simp, by simp [maxLen], Nat.lt_of_lt_of_le (cell_block hc).1 hrm.s, fun j hj => by (have h0 : j = 0 := (by simpa using hj)); subst h0; exact hrm.c _ _ hc⟩
      have hK2 := hK.out (.slice (some ⟨g, 0, none⟩) 1 1) w2 (hbl _ (by omega)) hrm ⟨g, rfl, hrd⟩
      clear hK hg hs hc hrm hbl hrd
      go_simp
      exact hK2
    refine AllSt.cons (o := _) (ds := []) rfl (by kernel_rfl) ?_ ?_
    · intro f w1 K HB hd hK
      clear hd
      generalize hA : frF _ _ f = A at hK ⊢
      simp only [List.getElem_toArray, List.getElem_cons_succ, List.getElem_cons_zero] at hK ⊢
      have e1 : A.tmps[1]?.getD undef = .pointer (some ⟨w.heap.size, 0, none⟩) := by rw [← hA]; rfl
      clear hA
      have hx := HC.out w1 (by rw [← hsz]; exact HB.out)
      have c0 := (cell_row hx 0 (by simp)).1
      have c1 := (cell_row hx 1 (by simp)).1
      have c2 := (cell_row hx 2 (by simp)).1
      have c3 := (cell_row hx 3 (by simp)).1
      have c4 := (cell_row hx 4 (by simp)).1
      have c5 := (cell_row hx 5 (by simp)).1
      simp only [List.getElem_toArray, List.getElem_cons_zero, List.getElem_cons_succ] at c0 c1 c2 c3 c4 c5
      have hK2 := hK.out (.agg #[.int .u64 1, .bool false, .int .i64 0, .int .u64 0, .int .i64 0, .int .i64 0]) w1 (Below.refl _ _) (Rm.of_below (Below.refl _ _)) rfl
      clear hK hx
      go_simp
      exact hK2
    refine AllSt.cons (o := _) (ds := [1, 2]) rfl (by kernel_rfl) ?_ ?_
    · intro f w1 K HB hd hK
      have h1 : spOk (w.heap.size + 1) (.byt 97) (f 10) w1 := hd 1 (by simp)
      have h2 : spOk (w.heap.size + 1) (.agg) (f 11) w1 := hd 2 (by simp)
      clear hd
      generalize hA : frF _ _ f = A at hK ⊢
      simp only [List.getElem_toArray, List.getElem_cons_succ, List.getElem_cons_zero] at hK ⊢
      have e10 : A.tmps[10]?.getD undef = f 10 := by rw [← hA]; rfl
      have e11 : A.tmps[11]?.getD undef = f 11 := by rw [← hA]; rfl
      clear hA
      obtain ⟨g, hg, hr⟩ := h1
      rw [hg] at e10 hr
      have hh : f 11 = .agg #[.int .u64 1, .bool false, .int .i64 0, .int .u64 0, .int .i64 0, .int .i64 0] := h2
      rw [hh] at e11
      have hK2 := hK.out (.agg #[.slice (some ⟨g, 0, none⟩) 1 1, .int .u64 1, .bool false, .int .i64 0, .int .u64 0, .int .i64 0, .int .i64 0]) w1 (Below.refl _ _) (Rm.of_below (Below.refl _ _)) ⟨g, rfl, hr⟩
      clear hK hg hr hh h2
      go_simp
      exact hK2
    refine AllSt.cons (o := _) (ds := []) rfl (by kernel_rfl) ?_ ?_
    · intro f w1 K HB hd hK
      clear hd
      generalize hA : frF _ _ f = A at hK ⊢
      simp only [List.getElem_toArray, List.getElem_cons_succ, List.getElem_cons_zero] at hK ⊢
      clear hA
      have hb := (Below.refl w1.heap.size w1).alloc (Nat.le_refl _) (.cells #[.int .u8 99] 5)
      have hn : (w.heap.size + 1) ≤ w1.heap.size := by have := HB.out.size; omega
      have hK2 := hK.out (.slice (some ⟨w1.heap.size, 0, none⟩) 1 1) _ (hb.mono (by omega)) (Rm.of_below hb) ⟨w1.heap.size, rfl, hn, by unfold World.shape?; rw [heap_alloc_new]; rfl, by rw [cell_of_block (heap_alloc_new _ _)]; rfl⟩
      clear hK
      go_simp
      exact hK2
    refine AllSt.cons (o := _) (ds := [4]) rfl (by kernel_rfl) ?_ ?_
    · intro f w1 K HB hd hK
      have h4 : spOk (w.heap.size + 1) (.raw 99) (f 13) w1 := hd 4 (by simp)
      clear hd
      generalize hA : frF _ _ f = A at hK ⊢
      simp only [List.getElem_toArray, List.getElem_cons_succ, List.getElem_cons_zero] at hK ⊢
      have e13 : A.tmps[13]?.getD undef = f 13 := by rw [← hA]; rfl
      clear hA
      obtain ⟨g, hg, hn, hs, hc⟩ := h4
      rw [hg] at e13
      obtain ⟨w2, hr, hrm, hbl⟩ := run_mark hs
      have hrd : Reads w2 (.slice (some ⟨g, 0, none⟩) 1 1) [99] := .inr ⟨g, 0, 1, rfl, by simp, by simp, by simp [maxLen], Nat.lt_of_lt_of_le (cell_block hc).1 hrm.s, fun j hj => by (have h0 : j = 0 := (by simpa using hj)); subst h0; exact hrm.c _ _ hc⟩
      have hK2 := hK.out (.slice (some ⟨g, 0, none⟩) 1 1) w2 (hbl _ (by omega)) hrm ⟨g, rfl, hrd⟩
      clear hK hg hs hc hrm hbl hrd
      go_simp
      exact hK2
    refine AllSt.cons (o := _) (ds := []) rfl (by kernel_rfl) ?_ ?_
    · intro f w1 K HB hd hK
      clear hd
      generalize hA : frF _ _ f = A at hK ⊢
      simp only [List.getElem_toArray, List.getElem_cons_succ, List.getElem_cons_zero] at hK ⊢
      have e1 : A.tmps[1]?.getD undef = .pointer (some ⟨w.heap.size, 0, none⟩) := by rw [← hA]; rfl
      clear hA
      have hx := HC.out w1 (by rw [← hsz]; exact HB.out)
      have c0 := (cell_row hx 0 (by simp)).1
      have c1 := (cell_row hx 1 (by simp)).1
      have c2 := (cell_row hx 2 (by simp)).1
      have c3 := (cell_row hx 3 (by simp)).1
      have c4 := (cell_row hx 4 (by simp)).1
      have c5 := (cell_row hx 5 (by simp)).1
      simp only [List.getElem_toArray, List.getElem_cons_zero, List.getElem_cons_succ] at c0 c1 c2 c3 c4 c5
      have hK2 := hK.out (.agg #[.int .u64 1, .bool false, .int .i64 0, .int .u64 0, .int .i64 0, .int .i64 0]) w1 (Below.refl _ _) (Rm.of_below (Below.refl _ _)) rfl
      clear hK hx
      go_simp
      exact hK2
    refine AllSt.cons (o := _) (ds := [5, 6]) rfl (by kernel_rfl) ?_ ?_
    · intro f w1 K HB hd hK
      have h5 : spOk (w.heap.size + 1) (.byt 99) (f 14) w1 := hd 5 (by simp)
      have h6 : spOk (w.heap.size + 1) (.agg) (f 15) w1 := hd 6 (by simp)
      clear hd
      generalize hA : frF _ _ f = A at hK ⊢
      simp only [List.getElem_toArray, List.getElem_cons_succ, List.getElem_cons_zero] at hK ⊢
      have e14 : A.tmps[14]?.getD undef = f 14 := by rw [← hA]; rfl
      have e15 : A.tmps[15]?.getD undef = f 15 := by rw [← hA]; rfl
      clear hA
      obtain ⟨g, hg, hr⟩ := h5
      rw [hg] at e14 hr
      have hh : f 15 = .agg #[.int .u64 1, .bool false, .int .i64 0, .int .u64 0, .int .i64 0, .int .i64 0] := h6
      rw [hh] at e15
      have hK2 := hK.out (.agg #[.slice (some ⟨g, 0, none⟩) 1 1, .int .u64 1, .bool false, .int .i64 0, .int .u64 0, .int .i64 0, .int .i64 0]) w1 (Below.refl _ _) (Rm.of_below (Below.refl _ _)) ⟨g, rfl, hr⟩
      clear hK hg hr hh h6
      go_simp
      exact hK2
    refine AllSt.cons (o := _) (ds := [3, 7]) rfl (by kernel_rfl) ?_ ?_
    · intro f w1 K HB hd hK
      have h3 : spOk (w.heap.size + 1) (.ent 97) (f 12) w1 := hd 3 (by simp)
      have h7 : spOk (w.heap.size + 1) (.ent 99) (f 16) w1 := hd 7 (by simp)
      clear hd
      generalize hA : frF _ _ f = A at hK ⊢
      simp only [List.getElem_toArray, List.getElem_cons_succ, List.getElem_cons_zero] at hK ⊢
      have e12 : A.tmps[12]?.getD undef = f 12 := by rw [← hA]; rfl
      have e16 : A.tmps[16]?.getD undef = f 16 := by rw [← hA]; rfl
      clear hA
      obtain ⟨g, hg, hr⟩ := h3
      obtain ⟨g', hg', hr'⟩ := h7
      rw [hg] at e12
      rw [hg'] at e16
      have hb := (Below.refl w1.heap.size w1).alloc (Nat.le_refl _) (.cells #[.slice (some ⟨g, 0, none⟩) 1 1, .int .u64 1, .bool false, .int .i64 0, .int .u64 0, .int .i64 0, .int .i64 0, .slice (some ⟨g', 0, none⟩) 1 1, .int .u64 1, .bool false, .int .i64 0, .int .u64 0, .int .i64 0, .int .i64 0] 59)
      have hn : (w.heap.size + 1) ≤ w1.heap.size := by have := HB.out.size; omega
      have hE := two_rows w1 _ _ 97 99 hr hr'
      have hK2 := hK.out (.slice (some ⟨w1.heap.size, 0, none⟩) 2 2) _ (hb.mono (by omega)) (Rm.of_below hb) ⟨w1.heap.size, rfl, hE⟩
      clear hK hg hg' hr hr' hb hE
      go_simp
      exact hK2
    refine AllSt.cons (o := _) (ds := []) rfl (by kernel_rfl) ?_ ?_
    · intro f w1 K HB hd hK
      clear hd
      generalize hA : frF _ _ f = A at hK ⊢
      simp only [List.getElem_toArray, List.getElem_cons_succ, List.getElem_cons_zero] at hK ⊢
      clear hA
      have hb := (Below.refl w1.heap.size w1).alloc (Nat.le_refl _) (.cells #[.int .u8 98] 5)
      have hn : (w.heap.size + 1) ≤ w1.heap.size := by have := HB.out.size; omega
      have hK2 := hK.out (.slice (some ⟨w1.heap.size, 0, none⟩) 1 1) _ (hb.mono (by omega)) (Rm.of_below hb) ⟨w1.heap.size, rfl, hn, by unfold World.shape?; rw [heap_alloc_new]; rfl, by rw [cell_of_block (heap_alloc_new _ _)]; rfl⟩
      clear hK
      go_simp
      exact hK2
    refine AllSt.cons (o := _) (ds := [9]) rfl (by kernel_rfl) ?_ ?_
    · intro f w1 K HB hd hK
      have h9 : spOk (w.heap.size + 1) (.raw 98) (f 18) w1 := hd 9 (by simp)
      clear hd
      generalize hA : frF _ _ f = A at hK ⊢
      simp only [List.getElem_toArray, List.getElem_cons_succ, List.getElem_cons_zero] at hK ⊢
      have e18 : A.tmps[18]?.getD undef = f 18 := by rw [← hA]; rfl
      clear hA
      obtain ⟨g, hg, hn, hs, hc⟩ := h9
      rw [hg] at e18
      obtain ⟨w2, hr, hrm, hbl⟩ := run_mark hs
      have hrd : Reads w2 (.slice (some ⟨g, 0, none⟩) 1 1) [98] := .inr ⟨g, 0, 1, rfl, by simp, by simp, by simp [maxLen], Nat.lt_of_lt_of_le (cell_block hc).1 hrm.s, fun j hj => by (have h0 : j = 0 := (by simpa using hj)); subst h0; exact hrm.c _ _ hc⟩
      have hK2 := hK.out (.slice (some ⟨g, 0, none⟩) 1 1) w2 (hbl _ (by omega)) hrm ⟨g, rfl, hrd⟩
      clear hK hg hs hc hrm hbl hrd
      go_simp
      exact hK2
    refine AllSt.cons (o := _) (ds := []) rfl (by kernel_rfl) ?_ ?_
    · intro f w1 K HB hd hK
      clear hd
      generalize hA : frF _ _ f = A at hK ⊢
      simp only [List.getElem_toArray, List.getElem_cons_succ, List.getElem_cons_zero] at hK ⊢
      have e1 : A.tmps[1]?.getD undef = .pointer (some ⟨w.heap.size, 0, none⟩) := by rw [← hA]; rfl
      clear hA
      have hx := HC.out w1 (by rw [← hsz]; exact HB.out)
      have c0 := (cell_row hx 0 (by simp)).1
      have c1 := (cell_row hx 1 (by simp)).1
      have c2 := (cell_row hx 2 (by simp)).1
      have c3 := (cell_row hx 3 (by simp)).1
      have c4 := (cell_row hx 4 (by simp)).1
      have c5 := (cell_row hx 5 (by simp)).1
      simp only [List.getElem_toArray, List.getElem_cons_zero, List.getElem_cons_succ] at c0 c1 c2 c3 c4 c5
      have hK2 := hK.out (.agg #[.int .u64 1, .bool false, .int .i64 0, .int .u64 0, .int .i64 0, .int .i64 0]) w1 (Below.refl _ _) (Rm.of_below (Below.refl _ _)) rfl
      clear hK hx
      go_simp
      exact hK2
    refine AllSt.cons (o := _) (ds := [10, 11]) rfl (by kernel_rfl) ?_ ?_
    · intro f w1 K HB hd hK
      have h10 : spOk (w.heap.size + 1) (.byt 98) (f 19) w1 := hd 10 (by simp)
      have h11 : spOk (w.heap.size + 1) (.agg) (f 20) w1 := hd 11 (by simp)
      clear hd
      generalize hA : frF _ _ f = A at hK ⊢
      simp only [List.getElem_toArray, List.getElem_cons_succ, List.getElem_cons_zero] at hK ⊢
      have e19 : A.tmps[19]?.getD undef = f 19 := by rw [← hA]; rfl
      have e20 : A.tmps[20]?.getD undef = f 20 := by rw [← hA]; rfl
      clear hA
      obtain ⟨g, hg, hr⟩ := h10
      rw [hg] at e19 hr
      have hh : f 20 = .agg #[.int .u64 1, .bool false, .int .i64 0, .int .u64 0, .int .i64 0, .int .i64 0] := h11
      rw [hh] at e20
      have hK2 := hK.out (.agg #[.slice (some ⟨g, 0, none⟩) 1 1, .int .u64 1, .bool false, .int .i64 0, .int .u64 0, .int .i64 0, .int .i64 0]) w1 (Below.refl _ _) (Rm.of_below (Below.refl _ _)) ⟨g, rfl, hr⟩
      clear hK hg hr hh h11
      go_simp
      exact hK2
    refine AllSt.cons (o := _) (ds := []) rfl (by kernel_rfl) ?_ ?_
    · intro f w1 K HB hd hK
      clear hd
      generalize hA : frF _ _ f = A at hK ⊢
      simp only [List.getElem_toArray, List.getElem_cons_succ, List.getElem_cons_zero] at hK ⊢
      clear hA
      have hb := (Below.refl w1.heap.size w1).alloc (Nat.le_refl _) (.cells #[.int .u8 99] 5)
      have hn : (w.heap.size + 1) ≤ w1.heap.size := by have := HB.out.size; omega
      have hK2 := hK.out (.slice (some ⟨w1.heap.size, 0, none⟩) 1 1) _ (hb.mono (by omega)) (Rm.of_below hb) ⟨w1.heap.size, rfl, hn, by unfold World.shape?; rw [heap_alloc_new]; rfl, by rw [cell_of_block (heap_alloc_new _ _)]; rfl⟩
      clear hK
      go_simp
      exact hK2
    refine AllSt.cons (o := _) (ds := [13]) rfl (by kernel_rfl) ?_ ?_
    · intro f w1 K HB hd hK
      have h13 : spOk (w.heap.size + 1) (.raw 99) (f 22) w1 := hd 13 (by simp)
      clear hd
      generalize hA : frF _ _ f = A at hK ⊢
      simp only [List.getElem_toArray, List.getElem_cons_succ, List.getElem_cons_zero] at hK ⊢
      have e22 : A.tmps[22]?.getD undef = f 22 := by rw [← hA]; rfl
      clear hA
      obtain ⟨g, hg, hn, hs, hc⟩ := h13
      rw [hg] at e22
      obtain ⟨w2, hr, hrm, hbl⟩ := run_mark hs
      have hrd : Reads w2 (.slice (some ⟨g, 0, none⟩) 1 1) [99] := .inr ⟨g, 0, 1, rfl, by simp, by simp, by simp [maxLen], Nat.lt_of_lt_of_le (cell_block hc).1 hrm.s, fun j hj => by (have h0 : j = 0 := (by simpa using hj)); subst h0; exact hrm.c _ _ hc⟩
      have hK2 := hK.out (.slice (some ⟨g, 0, none⟩) 1 1) w2 (hbl _ (by omega)) hrm ⟨g, rfl, hrd⟩
      clear hK hg hs hc hrm hbl hrd
      go_simp
      exact hK2
    refine AllSt.cons (o := _) (ds := []) rfl (by kernel_rfl) ?_ ?_
    · intro f w1 K HB hd hK
      clear hd
      generalize hA : frF _ _ f = A at hK ⊢
      simp only [List.getElem_toArray, List.getElem_cons_succ, List.getElem_cons_zero] at hK ⊢
      have e1 : A.tmps[1]?.getD undef = .pointer (some ⟨w.heap.size, 0, none⟩) := by rw [← hA]; rfl
      clear hA
      have hx := HC.out w1 (by rw [← hsz]; exact HB.out)
      have c0 := (cell_row hx 0 (by simp)).1
      have c1 := (cell_row hx 1 (by simp)).1
      have c2 := (cell_row hx 2 (by simp)).1
      have c3 := (cell_row hx 3 (by simp)).1
      have c4 := (cell_row hx 4 (by simp)).1
      have c5 := (cell_row hx 5 (by simp)).1
      simp only [List.getElem_toArray, List.getElem_cons_zero, List.getElem_cons_succ] at c0 c1 c2 c3 c4 c5
      have hK2 := hK.out (.agg #[.int .u64 1, .bool false, .int .i64 0, .int .u64 0, .int .i64 0, .int .i64 0]) w1 (Below.refl _ _) (Rm.of_below (Below.refl _ _)) rfl
      clear hK hx
      go_simp
      exact hK2
    refine AllSt.cons (o := _) (ds := [14, 15]) rfl (by kernel_rfl) ?_ ?_
    · intro f w1 K HB hd hK
      have h14 : spOk (w.heap.size + 1) (.byt 99) (f 23) w1 := hd 14 (by simp)
      have h15 : spOk (w.heap.size + 1) (.agg) (f 24) w1 := hd 15 (by simp)
      clear hd
      generalize hA : frF _ _ f = A at hK ⊢
      simp only [List.getElem_toArray, List.getElem_cons_succ, List.getElem_cons_zero] at hK ⊢
      have e23 : A.tmps[23]?.getD undef = f 23 := by rw [← hA]; rfl
      have e24 : A.tmps[24]?.getD undef = f 24 := by rw [← hA]; rfl
      clear hA
      obtain ⟨g, hg, hr⟩ := h14
      rw [hg] at e23 hr
      have hh : f 24 = .agg #[.int .u64 1, .bool false, .int .i64 0, .int .u64 0, .int .i64 0, .int .i64 0] := h15
      rw [hh] at e24
      have hK2 := hK.out (.agg #[.slice (some ⟨g, 0, none⟩) 1 1, .int .u64 1, .bool false, .int .i64 0, .int .u64 0, .int .i64 0, .int .i64 0]) w1 (Below.refl _ _) (Rm.of_below (Below.refl _ _)) ⟨g, rfl, hr⟩
      clear hK hg hr hh h15
      go_simp
      exact hK2
    refine AllSt.cons (o := _) (ds := [12, 16]) rfl (by kernel_rfl) ?_ ?_
    · intro f w1 K HB hd hK
      have h12 : spOk (w.heap.size + 1) (.ent 98) (f 21) w1 := hd 12 (by simp)
      have h16 : spOk (w.heap.size + 1) (.ent 99) (f 25) w1 := hd 16 (by simp)
      clear hd
      generalize hA : frF _ _ f = A at hK ⊢
      simp only [List.getElem_toArray, List.getElem_cons_succ, List.getElem_cons_zero] at hK ⊢
      have e21 : A.tmps[21]?.getD undef = f 21 := by rw [← hA]; rfl
      have e25 : A.tmps[25]?.getD undef = f 25 := by rw [← hA]; rfl
      clear hA
      obtain ⟨g, hg, hr⟩ := h12
      obtain ⟨g', hg', hr'⟩ := h16
      rw [hg] at e21
      rw [hg'] at e25
      have hb := (Below.refl w1.heap.size w1).alloc (Nat.le_refl _) (.cells #[.slice (some ⟨g, 0, none⟩) 1 1, .int .u64 1, .bool false, .int .i64 0, .int .u64 0, .int .i64 0, .int .i64 0, .slice (some ⟨g', 0, none⟩) 1 1, .int .u64 1, .bool false, .int .i64 0, .int .u64 0, .int .i64 0, .int .i64 0] 59)
      have hn : (w.heap.size + 1) ≤ w1.heap.size := by have := HB.out.size; omega
      have hE := two_rows w1 _ _ 98 99 hr hr'
      have hK2 := hK.out (.slice (some ⟨w1.heap.size, 0, none⟩) 2 2) _ (hb.mono (by omega)) (Rm.of_below hb) ⟨w1.heap.size, rfl, hE⟩
      clear hK hg hg' hr hr' hb hE
      go_simp
      exact hK2
    refine AllSt.cons (o := _) (ds := [8, 0, 1, 2, 3, 4, 5, 6, 7, 8]) rfl (by kernel_rfl) ?_ ?_
    · intro f w1 K HB hd hK
      have h8 : spOk (w.heap.size + 1) (.row 97 99) (f 17) w1 := hd 8 (by simp)
      clear hd
      generalize hA : frF _ _ f = A at hK ⊢
      simp only [List.getElem_toArray, List.getElem_cons_succ, List.getElem_cons_zero] at hK ⊢
      have e17 : A.tmps[17]?.getD undef = f 17 := by rw [← hA]; rfl
      clear hA
      obtain ⟨g, hg, hr⟩ := h8
      rw [hg] at hr
      rw [hg] at e17
      have hK2 := hK.out (.slice (some ⟨g, 0, none⟩) 2 2) w1 (Below.refl _ _) (Rm.of_below (Below.refl _ _)) ⟨g, rfl, hr⟩
      clear hK hg hr
      go_simp
      exact hK2
    refine AllSt.cons (o := _) (ds := [17, 18, 0, 1, 2, 3, 4, 5, 6, 7, 8, 9, 10, 11, 12, 13, 14, 15, 16, 17, 18]) rfl (by kernel_rfl) ?_ ?_
    · intro f w1 K HB hd hK
      have h17 : spOk (w.heap.size + 1) (.row 98 99) (f 26) w1 := hd 17 (by simp)
      clear hd
      generalize hA : frF _ _ f = A at hK ⊢
      simp only [List.getElem_toArray, List.getElem_cons_succ, List.getElem_cons_zero] at hK ⊢
      have e26 : A.tmps[26]?.getD undef = f 26 := by rw [← hA]; rfl
      clear hA
      obtain ⟨g, hg, hr⟩ := h17
      rw [hg] at hr
      rw [hg] at e26
      have hK2 := hK.out (.slice (some ⟨g, 0, none⟩) 2 2) w1 (Below.refl _ _) (Rm.of_below (Below.refl _ _)) ⟨g, rfl, hr⟩
      clear hK hg hr
      go_simp
      exact hK2
    exact AllSt.nil
end Go.Proofs.Ytbadjigfcncfcaa

/- The contract of Great. -/
namespace Go.Proofs.Ytbadjigfcncfcaa
open Go.RowKit

def okRow (r : List En) : Prop := r.length ≤ 60 ∧ ∀ x ∈ r, x.1.length ≤ 300
def GtPost (rs : List (List En)) (w : World) (e : Ending) (w' : World) : Prop := ∃ g : Bool, e = .returned (.bool g) ∧ (g = false → rs.length ≤ 20 ∧ ∀ r ∈ rs, okRow r) ∧ w' = w
theorem eReads_key {w : World} {a : Option Addr} {n cap : Nat} {L : List En} (h : EReads w (.slice a n cap) L) {k : Nat} (hk : k < L.length) : ∃ b off sa sc, a = some ⟨b, off, none⟩ ∧ w.cell? ⟨b, off + k * 7, none⟩ = some (.slice sa L[k].1.length sc) := by
  obtain ⟨b, off, cap', hv, _⟩ := eReads_some h (by omega)
  simp at hv
  obtain ⟨rfl, rfl, rfl⟩ := hv
  obtain ⟨kv, hc, hr, _⟩ := eReads_at h hk rfl
  obtain ⟨sa, sc, rfl, _⟩ := hr.form
  exact ⟨b, off, sa, sc, rfl, hc 0 (by decide)⟩
set_option maxRecDepth 100000 in
set_option maxHeartbeats 2000000 in
theorem great_some (b off cap : Nat) (rs : List (List En)) (w : World) (hR : RReads w (.slice (some ⟨b, off, none⟩) rs.length cap) rs) :
    Calls Try.prog 9 #[.slice (some ⟨b, off, none⟩) rs.length cap] w (GtPost rs w) := by
  have HR : Hid (RReads w (.slice (some ⟨b, off, none⟩) rs.length cap) rs) := hR
  clear hR
  by_cases h20 : rs.length ≤ 20
  · go_enter Try.func9, Try.ntmps9
    go_wp2_with fail
    go_loopw [3] (fun i wr => ∃ k : Nat, ∃ hk : k ≤ rs.length, i = .int .i64 (k : Int) ∧ Hid (∀ j (hj : j < k), okRow (rs[j]'(by omega))) ∧ Hid (wr = w)) (fun i _ => rs.length - (intOf i).toNat)
    case atStart => exact ⟨0, by omega, rfl, fun j hj => by omega, rfl⟩
    case round =>
      obtain ⟨k, hk, rfl, HJ, HW⟩ := hrel
      obtain rfl := HW.out
      clear HW
      by_cases hlt : k < rs.length
      · obtain ⟨ev, hcv, hev⟩ := rReads_at HR.out hlt
        obtain ⟨ea, ec, hef, hle1, hle2⟩ := hev.form
        subst hef
        unfold maxLen at hle2
        have HNJ : Hid (okRow rs[k] → ∀ j (hj : j < k + 1), okRow (rs[j]'(by omega))) := fun h0 j hj => by
          rcases Nat.lt_or_ge j k with h1 | h1
          · exact HJ.out j h1
          · obtain rfl : j = k := by omega
            exact h0
        obtain ⟨r, Hr⟩ := hid_ex rs[k]
        rw [← Hr.out] at hcv hev HNJ hle1
        have HEV : Hid (EReads wr (.slice ea r.length ec) r) := hev
        clear hev
        by_cases h60 : r.length ≤ 60
        · go_wp2_with fail
          go_loopw [4] (fun i wq => ∃ m : Nat, ∃ hm : m ≤ r.length, i = .int .i64 (m : Int) ∧ Hid (∀ j (hj : j < m), (r[j]'(by omega)).1.length ≤ 300) ∧ Hid (wq = wr)) (fun i _ => r.length - (intOf i).toNat)
          case atStart => exact ⟨0, by omega, rfl, fun j hj => by omega, rfl⟩
          case round =>
            obtain ⟨m, hm, rfl, HM, HW⟩ := hrel
            obtain rfl := HW.out
            clear HW
            by_cases hml : m < r.length
            · obtain ⟨eb, eo, sa, sc, hef, hcm⟩ := eReads_key HEV.out hml
              subst hef
              have HNM : Hid (r[m].1.length ≤ 300 → ∀ j (hj : j < m + 1), (r[j]'(by omega)).1.length ≤ 300) := fun h0 j hj => by
                rcases Nat.lt_or_ge j m with h1 | h1
                · exact HM.out j h1
                · obtain rfl : j = m := by omega
                  exact h0
              obtain ⟨X, HX⟩ := hid_ex r[m].1.length
              rw [← HX.out] at hcm HNM
              by_cases h300 : X ≤ 300
              · have HN2 : Hid _ := HNM.out h300
                go_wp2_with fail
                go_roundw
                case rel => exact ⟨m + 1, by omega, by go_num, HN2.out, trivial⟩
                case measure => simp [intOf]; omega
              · go_wp2_with fail
                go_ret
                exact ⟨true, rfl, fun h => (by cases h), rfl⟩
            · have HN2 : Hid _ := HNJ.out ⟨h60, fun x hx => by
                obtain ⟨j, hj, rfl⟩ := List.getElem_of_mem hx
                exact HM.out j (by omega)⟩
              go_wp2_with fail
              go_roundw
              case rel => exact ⟨k + 1, by omega, by go_num, HN2.out, trivial⟩
              case measure => simp [intOf]; omega
        · go_wp2_with fail
          go_ret
          exact ⟨true, rfl, fun h => (by cases h), rfl⟩
      · go_wp2_with fail
        go_ret
        refine ⟨false, rfl, fun _ => ⟨h20, fun r hr => ?_⟩, rfl⟩
        obtain ⟨j, hj, rfl⟩ := List.getElem_of_mem hr
        exact HJ.out j (by omega)
  · go_enter Try.func9, Try.ntmps9
    go_wp2_with fail
    go_ret
    exact ⟨true, rfl, fun h => (by cases h), rfl⟩
set_option maxRecDepth 100000 in
set_option maxHeartbeats 2000000 in
theorem great_none (a : Option Addr) (cap : Nat) (w : World) : Calls Try.prog 9 #[.slice a 0 cap] w (GtPost [] w) := by
  go_enter Try.func9, Try.ntmps9
  go_wp2_with fail
  go_loopw [3] (fun i wr => i = .int .i64 0 ∧ Hid (wr = w)) (fun _ _ => 0)
  case atStart => exact ⟨rfl, rfl⟩
  case round =>
    obtain ⟨rfl, HW⟩ := hrel
    go_wp2_with fail
    go_ret
    exact ⟨false, rfl, fun _ => ⟨by simp, fun r hr => (by cases hr)⟩, HW.out⟩
theorem great_any (v : Value) (rs : List (List En)) (w : World) (hR : RReads w v rs) : Calls Try.prog 9 #[v] w (GtPost rs w) := by
  rcases Nat.eq_zero_or_pos rs.length with h0 | h0
  · obtain ⟨a, cap, rfl, _⟩ := hR
    obtain rfl : rs = [] := List.length_eq_zero_iff.1 h0
    exact great_none a cap w
  · obtain ⟨b, off, cap, rfl, _⟩ := rReads_some hR h0
    exact great_some b off cap rs w hR
end Go.Proofs.Ytbadjigfcncfcaa

/- The contract of the reference's Same, where both lists hold the same. -/
namespace Go.Proofs.Ytbadjigfcncfcaa
open Go.RowKit

/-- A slice reads these entries (nothing is told of their counts). -/
def ERd (w : World) (v : Value) (L : List En) : Prop :=
  ∃ a cap, v = .slice a L.length cap ∧ L.length ≤ cap ∧ cap ≤ maxLen ∧ (L = [] ∨ ∃ b off, a = some ⟨b, off, none⟩ ∧ b < w.heap.size ∧ ∀ j (hj : j < L.length), ∃ kv, (∀ i (hi : i < 7), w.cell? ⟨b, off + j * 7 + i, none⟩ = some ((c7 ⟨kv, L[j].1, L[j].2⟩)[i]'hi)) ∧ Reads w kv L[j].1)
theorem ERd.below {w w' : World} {v : Value} {L : List En} (h : ERd w v L) (hb : Below w.heap.size w w') : ERd w' v L := by
  obtain ⟨a, cap, rfl, h1, h2, h3⟩ := h
  refine ⟨a, cap, rfl, h1, h2, ?_⟩
  rcases h3 with h3 | ⟨b, off, h4, h5, h6⟩
  · exact .inl h3
  · refine .inr ⟨b, off, h4, Nat.lt_of_lt_of_le h5 hb.size, fun j hj => ?_⟩
    obtain ⟨kv, g1, g2⟩ := h6 j hj
    exact ⟨kv, fun i hi => (hb.cell (p := ⟨b, off + j * 7 + i, none⟩) h5).trans (g1 i hi), g2.below hb⟩
theorem EReads.rd {w : World} {v : Value} {L : List En} (h : EReads w v L) : ERd w v L := by
  obtain ⟨a, cap, rfl, h1, h2, h3⟩ := h
  refine ⟨a, cap, rfl, h1, h2, ?_⟩
  rcases h3 with h3 | ⟨b, off, h4, h5, h6⟩
  · exact .inl h3
  · refine .inr ⟨b, off, h4, h5, fun j hj => ?_⟩
    obtain ⟨kv, g1, g2, g3⟩ := h6 j hj
    exact ⟨kv, fun i hi => by rw [show off + j * 7 + i = off + (7 * j + i) by omega]; exact g1 i hi, g2⟩
theorem EOwn.rd {w : World} {base : Nat} {v : Value} {xs : List Ev} (h : EOwn w base v xs) : ERd w v (xs.map evE) := by
  obtain ⟨a, cap, rfl, h1, h2, h3⟩ := h.at
  refine ⟨a, cap, by simp, by simpa using h1, h2, ?_⟩
  rcases Nat.eq_zero_or_pos xs.length with h0 | h0
  · exact .inl (by rw [List.length_eq_zero_iff.1 h0]; rfl)
  · obtain ⟨g, rfl, _, h5, h6⟩ := h3 h0
    refine .inr ⟨g, 0, rfl, h5, fun j hj => ?_⟩
    simp at hj
    have e : (xs.map evE)[j]'(by simpa using hj) = evE xs[j] := by simp
    rw [e]
    refine ⟨xs[j].kv, fun i hi => ?_, (h.2 _ (List.getElem_mem hj)).reads⟩
    rw [show 0 + j * 7 + i = 7 * j + i by omega]
    exact (h6 j hj i hi).1
set_option maxRecDepth 100000 in
set_option maxHeartbeats 2000000 in
theorem same_true (va vb : Value) (L : List En) (w : World) (hA : ERd w va L) (hB : ERd w vb L) :
    Calls Try.prog 12 #[va, vb] w fun e w' => e = .returned (.bool true) ∧ Below w.heap.size w w' := by
  obtain ⟨a, ca, rfl, hca, hma, hA3⟩ := hA
  obtain ⟨b, cb, rfl, hcb, hmb, hB3⟩ := hB
  unfold maxLen at hma hmb
  have HA3 : Hid _ := hA3
  have HB3 : Hid _ := hB3
  clear hA3 hB3
  go_enter Try.func12, Try.ntmps12
  go_wp2_with fail
  go_loopw [5] (fun i wr => ∃ k : Nat, k ≤ L.length ∧ i = .int .i64 (k : Int) ∧ Hid (Below w.heap.size w wr)) (fun i _ => L.length - (intOf i).toNat)
  case atStart => exact ⟨0, by omega, rfl, Below.refl _ _⟩
  case round =>
    obtain ⟨k, hk, rfl, HW⟩ := hrel
    by_cases hlt : k < L.length
    · obtain ⟨bA, oA, rfl, hbA, hA⟩ := HA3.out.resolve_left (fun h => by rw [h] at hlt; simp at hlt)
      obtain ⟨bB, oB, rfl, hbB, hB⟩ := HB3.out.resolve_left (fun h => by rw [h] at hlt; simp at hlt)
      obtain ⟨kv, hc, hR⟩ := hA k hlt
      obtain ⟨kv', hc', hR'⟩ := hB k hlt
      obtain ⟨X, HX⟩ := hid_ex L[k]
      rw [← HX.out] at hR hR' hc hc'
      have hq : ∀ i (hi : i < 7), wr.cell? ⟨bA, oA + k * 7 + i, none⟩ = some ((c7 ⟨kv, X.1, X.2⟩)[i]'hi) := fun i hi => (HW.out.cell (p := ⟨bA, _, none⟩) hbA).trans (hc i hi)
      have hq' : ∀ i (hi : i < 7), wr.cell? ⟨bB, oB + k * 7 + i, none⟩ = some ((c7 ⟨kv', X.1, X.2⟩)[i]'hi) := fun i hi => (HW.out.cell (p := ⟨bB, _, none⟩) hbB).trans (hc' i hi)
      obtain ⟨ak, ck, rfl, _⟩ := hR.form
      obtain ⟨al, cl, rfl, _⟩ := hR'.form
      have c0 := hq 0 (by decide)
      have c1 := hq (1 + 0) (by decide)
      have c2 := hq (1 + 1) (by decide)
      have c3 := hq (1 + 2) (by decide)
      have c4 := hq (1 + 3) (by decide)
      have c5 := hq (1 + 4) (by decide)
      have c6 := hq (1 + 5) (by decide)
      have d0 := hq' 0 (by decide)
      have d1 := hq' (1 + 0) (by decide)
      have d2 := hq' (1 + 1) (by decide)
      have d3 := hq' (1 + 2) (by decide)
      have d4 := hq' (1 + 3) (by decide)
      have d5 := hq' (1 + 4) (by decide)
      have d6 := hq' (1 + 5) (by decide)
      simp only [c7, List.getElem_cons_zero, List.getElem_cons_succ, Nat.add_zero, Nat.reduceAdd] at c0 c1 c2 c3 c4 c5 c6 d0 d1 d2 d3 d4 d5 d6
      have hq1 : ∀ n, (convert 57 9 (.slice ak X.1.length ck)).run Try.prog (wr.drewN n) = .ok (.string ⟨X.1.toArray⟩) (wr.drewN n) := fun n => reads_text (hR.below (below_drewN HW.out n))
      have hq2 : ∀ n, (convert 57 9 (.slice al X.1.length cl)).run Try.prog (wr.drewN n) = .ok (.string ⟨X.1.toArray⟩) (wr.drewN n) := fun n => reads_text (hR'.below (below_drewN HW.out n))
      clear hq hq' hc hc'
      go_wp2_with fail
      go_quiet (fail)
      have HW2 : Hid (Below w.heap.size w (wr.drewN nq)) := below_drewN HW.out nq
      clear hq1 hq2
      go_wp2_with fail
      go_roundw
      case rel => exact ⟨k + 1, by omega, by go_num, HW2⟩
      case measure => simp [intOf]; omega
    · go_wp2_with fail
      go_ret
      exact ⟨rfl, HW.out⟩
end Go.Proofs.Ytbadjigfcncfcaa

/- Rows of rows: those that a slice reads, with numbers in their reach; a row of slices of one's own; parts of rows. -/
namespace Go.Proofs.Ytbadjigfcncfcaa
open Go.RowKit Go.Joins

/-- What is known, its sum in its reach. -/
def nz (a : Ag) : Ag := { a with s := hi a.s * 18446744073709551616 + lo a.s }
theorem hi_nz (a : Ag) : hi (nz a).s = hi a.s := by unfold nz hi lo; dsimp only; omega
theorem lo_nz (a : Ag) : lo (nz a).s = lo a.s := by unfold nz hi lo; dsimp only; omega
theorem nz_bd (a : Ag) : -170141183460469231731687303715884105728 ≤ (nz a).s ∧ (nz a).s < 170141183460469231731687303715884105728 := by unfold nz hi lo; dsimp only; omega
def nzE (x : En) : En := (x.1, nz x.2)
theorem c7_nz (kv : Value) (k : Ks) (a : Ag) : c7 ⟨kv, k, nz a⟩ = c7 ⟨kv, k, a⟩ := by
  unfold c7; dsimp only; rw [hi_nz, lo_nz]; rfl
theorem eReads_nz {w : World} {v : Value} {L : List En} (h : EReads w v L) : EReads w v (L.map nzE) := by
  obtain ⟨a, cap, rfl, h1, h2, h3⟩ := h
  refine ⟨a, cap, by simp, by simpa using h1, h2, ?_⟩
  rcases h3 with rfl | ⟨b, off, h4, h5, h6⟩
  · exact .inl rfl
  · refine .inr ⟨b, off, h4, h5, fun j hj => ?_⟩
    simp at hj
    obtain ⟨kv, g1, g2, g3⟩ := h6 j hj
    have e : (L.map nzE)[j]'(by simpa using hj) = nzE L[j] := by simp
    rw [e]
    refine ⟨kv, fun i hi => ?_, g2, g3⟩
    rw [g1 i hi]
    have := c7_nz kv L[j].1 L[j].2
    unfold nzE
    simp only [this]
    rfl
theorem rReads_nz {w : World} {v : Value} {rs : List (List En)} (h : RReads w v rs) : ∃ rs' : List (List En), RReads w v rs' ∧ ∀ r ∈ rs', ∀ x ∈ r, -170141183460469231731687303715884105728 ≤ x.2.s ∧ x.2.s < 170141183460469231731687303715884105728 := by
  refine ⟨rs.map fun r => r.map nzE, ?_, ?_⟩
  · obtain ⟨a, cap, rfl, h1, h2, h3⟩ := h
    refine ⟨a, cap, by simp, by simpa using h1, h2, ?_⟩
    rcases h3 with rfl | ⟨b, off, h4, h5, h6⟩
    · exact .inl rfl
    · refine .inr ⟨b, off, h4, h5, fun j hj => ?_⟩
      simp at hj
      obtain ⟨ev, g1, g2⟩ := h6 j hj
      have e : (rs.map fun r => r.map nzE)[j]'(by simpa using hj) = rs[j].map nzE := by simp
      rw [e]
      exact ⟨ev, g1, eReads_nz g2⟩
  · intro r hr x hx
    obtain ⟨r', _, rfl⟩ := List.mem_map.1 hr
    obtain ⟨y, _, rfl⟩ := List.mem_map.1 hx
    exact nz_bd y.2
theorem gd_rows {rs : List (List En)} (h : rowsF rs = 0) (hc : ∀ r ∈ rs, ∀ x ∈ r, CnOk x.2) (hs : ∀ r ∈ rs, ∀ x ∈ r, -170141183460469231731687303715884105728 ≤ x.2.s ∧ x.2.s < 170141183460469231731687303715884105728) : GdR rs :=
  fun r hr x hx => Gd.of (hc r hr x hx) ((rowF_ok (rowsF_ok.1 h r hr)).2 x hx) (hs r hr x hx).1 (hs r hr x hx).2
/-- A list, turned. -/
def rotl {α : Type} (L : List α) (t : Nat) : List α := L.drop (t % L.length) ++ L.take (t % L.length)
theorem rotl_perm {α : Type} (L : List α) (t : Nat) : (rotl L t).Perm L := by
  have := List.perm_append_comm (l₁ := L.drop (t % L.length)) (l₂ := L.take (t % L.length))
  rwa [List.take_append_drop] at this
theorem rotl_len {α : Type} (L : List α) (t : Nat) : (rotl L t).length = L.length := (rotl_perm L t).length_eq
theorem rotl_get {α : Type} (L : List α) (t k : Nat) (hk : k < L.length) : (rotl L t)[k]'(by rw [rotl_len]; exact hk) = L[(k + t) % L.length]'(Nat.mod_lt _ (by omega)) := by
  have hm : t % L.length < L.length := Nat.mod_lt _ (by omega)
  have e2 : (k + t) % L.length = (k + t % L.length) % L.length := by rw [Nat.add_mod_mod]
  unfold rotl
  by_cases hlt : k < (L.drop (t % L.length)).length
  · rw [List.getElem_append_left hlt, List.getElem_drop]
    have : (k + t) % L.length = t % L.length + k := by
      rw [List.length_drop] at hlt
      rw [e2, Nat.mod_eq_of_lt (by omega)]; omega
    simp only [this]
  · rw [List.getElem_append_right (by omega), List.getElem_take]
    have hl2 := hlt
    rw [List.length_drop] at hl2
    have : (k + t) % L.length = k - (L.drop (t % L.length)).length := by
      rw [List.length_drop, e2, show k + t % L.length = (k - (L.length - t % L.length)) + L.length by omega, Nat.add_mod_right, Nat.mod_eq_of_lt (by omega)]
    simp only [this]
theorem rotl_step {α : Type} {L : List α} {t k : Nat} (hk : k < L.length) : (rotl L t).take (k + 1) = (rotl L t).take k ++ [L[(k + t) % L.length]'(Nat.mod_lt _ (by omega))] := by
  have h2 : k < (rotl L t).length := by rw [rotl_len]; exact hk
  rw [List.take_add_one, List.getElem?_eq_getElem h2, rotl_get L t k hk]; rfl
theorem i64_and1023 (n : Int) : bits .and .i64 n 1023 = n % 1024 := by
  have h127 : (BitVec.ofInt 64 1023).toNat = 2 ^ 10 - 1 := by decide
  have key : (BitVec.ofInt 64 n &&& BitVec.ofInt 64 1023).toNat = (n % ((2 ^ 64 : Nat) : Int)).toNat % 2 ^ 10 := by
    rw [BitVec.toNat_and, BitVec.toNat_ofInt, h127, Nat.and_two_pow_sub_one_eq_mod]
  show IntKind.i64.wrap ((BitVec.ofInt 64 n &&& BitVec.ofInt 64 1023).toNat : Nat) = n % 1024
  rw [key, IntKind.wrap_i64]
  omega
theorem infoG : (Try.prog.info? 25).map (fun i => (i.zero, i.size, i.bytes)) = some (some (.slice none 0 0), 1, 24) := by kernel_rfl
/-- A row of slices of one's own, and what they read. -/
def GOwn (w0 w : World) (base : Nat) (v : Value) (Ls : List (List En)) : Prop := ∃ vs : List Value, w.ownsRow base 25 1 v Ls.length vs ∧ ∃ h : vs.length = Ls.length, ∀ j (hj : j < Ls.length), EReads w0 (vs[j]'(by omega)) Ls[j]
theorem GOwn.nil (w0 w : World) (base : Nat) : GOwn w0 w base (.slice none 0 0) [] := ⟨[], World.ownsRow_nil _ _ _ _, rfl, fun j hj => by simp at hj⟩
theorem GOwn.form {w0 w : World} {base : Nat} {v : Value} {Ls : List (List En)} (h : GOwn w0 w base v Ls) : ∃ a c, v = .slice a Ls.length c := by
  obtain ⟨vs, h1, _⟩ := h
  rcases h1.2 with ⟨h1, h2⟩ | ⟨g, cap, cur, hv, _⟩
  · exact ⟨none, 0, by rw [h1, h2]⟩
  · exact ⟨_, cap, hv⟩
theorem GOwn.reads {w0 w : World} {base : Nat} {v : Value} {Ls : List (List En)} (h : GOwn w0 w base v Ls) (hb : Below w0.heap.size w0 w) : RReads w v Ls := by
  obtain ⟨vs, h1, h2, h3⟩ := h
  have hlt := World.ownsRow.lt h1
  have h10 := h1
  rcases h1.2 with ⟨e1, e2⟩ | ⟨g, cap, cur, hv, hg, hw, hc, hm, _⟩
  · rw [e1]
    have : Ls = [] := List.length_eq_zero_iff.1 e2
    subst this
    exact ⟨none, 0, rfl, by simp, by simp, .inl rfl⟩
  · rw [hv] at h10
    refine ⟨_, cap, hv, hc, hm, ?_⟩
    rcases Nat.eq_zero_or_pos Ls.length with h0 | h0
    · exact .inl (List.length_eq_zero_iff.1 h0)
    · refine .inr ⟨g, 0, rfl, (hlt g (by rw [hv]; rfl)).2, fun j hj => ⟨vs[j]'(by omega), ?_, (h3 j hj).below hb⟩⟩
      rw [Nat.zero_add, World.ownsRow.cellAt h10 j (by omega), List.getElem?_eq_getElem (by omega)]
/-- One more. -/
theorem GOwn.snoc {w0 w : World} {base : Nat} {v : Value} {Ls : List (List En)} {e : Value} {L : List En} {M : List (List En)} (hM : M = Ls ++ [L]) (vs : List Value) (h : w.ownsRow base 25 1 v (Ls.length + 1) (vs ++ [e])) (h2 : vs.length = Ls.length) (h3 : ∀ j (hj : j < Ls.length), EReads w0 (vs[j]'(by omega)) Ls[j]) (he : EReads w0 e L) : GOwn w0 w base v M := by
  subst hM
  refine ⟨vs ++ [e], by simpa using h, by simp [h2], fun j hj => ?_⟩
  rcases Nat.lt_or_ge j Ls.length with hlt | hge
  · rw [List.getElem_append_left (by omega), List.getElem_append_left hlt]; exact h3 j hlt
  · have : j = Ls.length := by simp at hj; omega
    subst this
    rw [List.getElem_append_right (by omega), List.getElem_append_right (by omega)]
    simp [h2]; exact he
theorem sizeG (w : World) : (sizeOf 25).run Try.prog w = .ok 1 w := by
  simp [sizeOf]
  rfl
theorem elemG : Try.prog.elem 22 = 25 := by kernel_rfl
theorem undG : Try.prog.underlying 22 = some (.slice (Try.prog.elem 22)) := by rw [elemG]; exact Try.underlying22
theorem RReads.sliced {w : World} {a : Option Addr} {cap : Nat} {L : List (List En)} (h : RReads w (.slice a L.length cap) L) {c d : Nat} (hc : c ≤ d) (hd : d ≤ L.length) : RReads w (Go.sliced a c d cap 1) ((L.take d).drop c) := by
  obtain ⟨a', cap', hv, h1, h2, h3⟩ := h
  simp at hv
  obtain ⟨rfl, rfl⟩ := hv
  unfold Go.sliced
  have hl : ((L.take d).drop c).length = d - c := by simp; omega
  refine ⟨_, cap - c, by rw [hl], by omega, by omega, ?_⟩
  rcases Nat.eq_zero_or_pos (d - c) with h0 | h0
  · exact .inl (List.length_eq_zero_iff.1 (by omega))
  · rcases h3 with rfl | ⟨b, off, rfl, h5, h6⟩
    · simp at hd; omega
    · rw [if_neg (by omega)]
      refine .inr ⟨b, off + c, by simp [Addr.add], h5, fun j hj => ?_⟩
      obtain ⟨ev, g1, g2⟩ := h6 (c + j) (by omega)
      refine ⟨ev, by rw [Nat.add_assoc]; exact g1, ?_⟩
      have e : ((L.take d).drop c)[j]'hj = L[c + j]'(by omega) := by simp
      rw [e]; exact g2
theorem gsl_from {w : World} {a : Option Addr} {cap : Nat} {L : List (List En)} (h : RReads w (.slice a L.length cap) L) {c : Nat} (hc : c ≤ L.length) :
    ∃ a' cap', (∀ w', (Instr.slice 22 (.slice a L.length cap) (some (.int .i64 (c : Int))) none none).run Try.prog w' = .ok (.slice a' (L.length - c) cap') w') ∧ RReads w (.slice a' (L.length - c) cap') (L.drop c) := by
  refine ⟨(if cap = c then a else a.map (·.add (c * 1))), cap - c, fun w' => ?_, ?_⟩
  rotate_left
  · have := h.sliced hc (Nat.le_refl _)
    rw [List.take_length] at this
    exact this
  · rw [run_slice_l _ _ _ _ _ undG _ _ (by omega) (by omega), elemG, sizeG]
    rfl
theorem gsl_upto {w : World} {a : Option Addr} {cap : Nat} {L : List (List En)} (h : RReads w (.slice a L.length cap) L) {d : Nat} (hd : d ≤ L.length) :
    ∃ a' cap', (∀ w', (Instr.slice 22 (.slice a L.length cap) none (some (.int .i64 (d : Int))) none).run Try.prog w' = .ok (.slice a' d cap') w') ∧ RReads w (.slice a' d cap') (L.take d) := by
  have hcap : d ≤ cap := by
    obtain ⟨a', cap', hv, h1, _⟩ := h
    simp at hv
    omega
  refine ⟨(if cap = 0 then a else a.map (·.add (0 * 1))), cap - 0, fun w' => ?_, ?_⟩
  rotate_left
  · exact h.sliced (Nat.zero_le d) hd
  · rw [run_slice_h _ _ _ _ _ undG _ _ (by omega) (by omega), elemG, sizeG]
    rfl
/-- All of rows that are rows. -/
theorem all_ok (v : Value) (rs : List (List En)) (w : World) (hR : RReads w v rs) (hl1 : rs.length ≤ 10000) (hl2 : ∀ r ∈ rs, r.length ≤ 100000) (hl3 : ∀ r ∈ rs, ∀ x ∈ r, x.1.length ≤ 100000) (hz : rowsF rs = 0) (A : List En) (hA : A = allF rs) :
    Calls Try.prog 11 #[v] w fun e w' => ∃ a cap, e = .returned (.tuple #[.slice a A.length cap, .int .i64 0]) ∧ EReads w' (.slice a A.length cap) A ∧ Below w.heap.size w w' := by
  subst hA
  refine (all_some v rs w hR hl1 hl2 hl3).mono ?_
  rintro e w2 ⟨hb2, ⟨hne, rfl⟩ | ⟨_, l, xs, rfl, ho, hm, hc⟩⟩
  · exact absurd hz hne
  · have h9 := ho.reads hc
    rw [hm] at h9
    obtain ⟨a, cap, rfl, _⟩ := h9.form
    exact ⟨a, cap, rfl, h9, hb2⟩
end Go.Proofs.Ytbadjigfcncfcaa

/- Items in memory; the contract of fold.read. -/
namespace Go.Proofs.Ytbadjigfcncfcaa
open Go.RowKit

/-- An entry whose key was read. -/
structure It where
  v : Value
  D : List ByteArray
  f : Int
  g : Nat
  a : Ag
def c9 (x : It) : List Value := [x.v, .int .i64 x.f, .int .i64 (x.g : Int), .int .u64 x.a.c, .bool x.a.o, .int .i64 (hi x.a.s), .int .u64 (lo x.a.s), .int .i64 x.a.mn, .int .i64 x.a.mx]
def itE (x : It) : En := (kb x.D x.f (x.g : Int), x.a)
theorem c9_len (x : It) : (c9 x).length = 9 := rfl
theorem flat9 : ∀ (xs : List It) (j i : Nat) (hj : j < xs.length), i < 9 → (xs.flatMap c9)[9 * j + i]? = (c9 xs[j])[i]?
  | [], j, i, hj, _ => by simp at hj
  | x :: xs, 0, i, _, hi => by
    rw [List.flatMap_cons, List.getElem?_append_left (by rw [c9_len]; omega)]; simp
  | x :: xs, j + 1, i, hj, hi => by
    rw [List.flatMap_cons, List.getElem?_append_right (by rw [c9_len]; omega), c9_len, show 9 * (j + 1) + i - 9 = 9 * j + i by omega]
    exact flat9 xs j i (by simpa using hj) hi
theorem flat9_len : ∀ xs : List It, (xs.flatMap c9).length = xs.length * 9
  | [] => rfl
  | x :: xs => by rw [List.flatMap_cons, List.length_append, flat9_len xs, c9_len]; simp; omega
/-- A slice reads these items. -/
def TReads (w : World) (v : Value) (xs : List It) : Prop :=
  ∃ a cap, v = .slice a xs.length cap ∧ xs.length ≤ cap ∧ cap ≤ maxLen ∧ (xs = [] ∨ ∃ b off, a = some ⟨b, off, none⟩ ∧ b < w.heap.size ∧ ∀ j (hj : j < xs.length), (∀ i (hi : i < 9), w.cell? ⟨b, off + j * 9 + i, none⟩ = some ((c9 xs[j])[i]'hi)) ∧ SReads w xs[j].v xs[j].D)
theorem TReads.below {w w' : World} {v : Value} {xs : List It} (h : TReads w v xs) (hb : Below w.heap.size w w') : TReads w' v xs := by
  obtain ⟨a, cap, rfl, h1, h2, h3⟩ := h
  refine ⟨a, cap, rfl, h1, h2, ?_⟩
  rcases h3 with h3 | ⟨b, off, h4, h5, h6⟩
  · exact .inl h3
  · refine .inr ⟨b, off, h4, Nat.lt_of_lt_of_le h5 hb.size, fun j hj => ?_⟩
    obtain ⟨g1, g2⟩ := h6 j hj
    exact ⟨fun i hi => (hb.cell (p := ⟨b, off + j * 9 + i, none⟩) h5).trans (g1 i hi), g2.below hb⟩
theorem TReads.form {w : World} {v : Value} {xs : List It} (h : TReads w v xs) : ∃ a cap, v = .slice a xs.length cap ∧ xs.length ≤ cap ∧ cap ≤ maxLen := by
  obtain ⟨a, cap, rfl, h1, h2, _⟩ := h
  exact ⟨a, cap, rfl, h1, h2⟩
theorem tReads_of {w : World} {base g n cap : Nat} {xs : List It} (h : w.ownsRow base 75 9 (.slice (some ⟨g, 0, none⟩) n cap) n (xs.flatMap c9)) (hn : xs.length = n) (hs : ∀ x ∈ xs, SReads w x.v x.D) : TReads w (.slice (some ⟨g, 0, none⟩) n cap) xs := by
  have hlt := World.ownsRow.lt h g rfl
  have h0 := h
  rcases h.2 with ⟨q, _⟩ | ⟨g', cap', cur, q, _, _, hc, hm, _⟩
  · simp at q
  · simp at q
    obtain ⟨rfl, rfl⟩ := q
    refine ⟨_, cap, by rw [hn], by omega, hm, ?_⟩
    rcases Nat.eq_zero_or_pos xs.length with hz | hz
    · exact .inl (List.length_eq_zero_iff.1 hz)
    · refine .inr ⟨g, 0, rfl, hlt.2, fun j hj => ⟨fun i hi => ?_, hs _ (List.getElem_mem hj)⟩⟩
      rw [show 0 + j * 9 + i = 9 * j + i by omega, World.ownsRow.cellAt h0 _ (by omega), flat9 xs j i hj hi, List.getElem?_eq_getElem (show i < (c9 xs[j]).length from hi)]
      rfl
theorem one9 {x : It} (h : x.v.oneCell' = true) : ∀ u ∈ c9 x, u.oneCell' = true := by
  intro u hu
  simp only [c9, List.mem_cons, List.not_mem_nil, or_false] at hu
  rcases hu with rfl | rfl | rfl | rfl | rfl | rfl | rfl | rfl | rfl
  · exact h
  all_goals rfl
theorem infoIt : (Try.prog.info? 75).map (fun i => (i.zero, i.size, i.bytes)) = some (some (.agg #[.slice none 0 0, .int .i64 0, .int .i64 0, .int .u64 0, .bool false, .int .i64 0, .int .u64 0, .int .i64 0, .int .i64 0]), 9, 88) := by kernel_rfl
/-- Does an entry fit rules, which are not asked themselves? -/
def fitB (R : Rl) (x : En) : Bool := match rdF x.1 with
  | none => false
  | some (_, f, g) => begB R f g.toNat && !(x.2.c == 0) && rightB x.2
theorem fitB_no {R : Rl} {x : En} (h : rdF x.1 = none) : fitB R x = false := by unfold fitB; rw [h]
theorem fitB_of {R : Rl} {x : En} {D : List ByteArray} {f g : Int} (h : rdF x.1 = some (D, f, g)) : fitB R x = (begB R f g.toNat && !(x.2.c == 0) && rightB x.2) := by unfold fitB; rw [h]
theorem fitB_iff {R : Rl} (hR : RightP R) {x : En} : fitB R x = true ↔ FitE R x := by
  constructor
  · intro h
    cases hr : rdF x.1 with
    | none => rw [fitB_no hr] at h; cases h
    | some q =>
      obtain ⟨D, f, g⟩ := q
      rw [fitB_of hr] at h
      simp only [Bool.and_eq_true, Bool.not_eq_true', beq_eq_false_iff_ne, ne_eq] at h
      exact ⟨⟨D, f, g, hr, (begB_iff hR).1 h.1.1⟩, h.1.2, h.2⟩
  · intro h
    obtain ⟨D, f, g, hr, hb⟩ := h.k
    rw [fitB_of hr, (begB_iff hR).2 hb, h.r]
    simp [h.c]
def fitsB (R : Rl) (L : List En) : Bool := L.all (fitB R)
theorem fitsB_iff {R : Rl} (hR : RightP R) {L : List En} : fitsB R L = true ↔ FitL R L := by
  unfold fitsB FitL
  rw [List.all_eq_true]
  exact ⟨fun h x hx => (fitB_iff hR).1 (h x hx), fun h x hx => (fitB_iff hR).2 (h x hx)⟩
theorem fitsB_bad {R : Rl} {L : List En} {k : Nat} (hk : k < L.length) (h : fitB R L[k] = false) : fitsB R L = false := by
  unfold fitsB
  rw [List.all_eq_false]
  exact ⟨_, List.getElem_mem hk, by rw [h]; simp⟩
theorem fitsB_all {R : Rl} {L : List En} (h : ∀ j (hj : j < L.length), fitB R L[j] = true) : fitsB R L = true := by
  unfold fitsB
  rw [List.all_eq_true]
  intro x hx
  obtain ⟨j, hj, rfl⟩ := List.getElem_of_mem hx
  exact h j hj
/-- What is known of an item. -/
structure ItOk (R : Rl) (x : It) : Prop where
  r : rightBK x.D x.f (x.g : Int) = true
  b : begB R x.f x.g = true
  c : CnOk x.a
  n : x.a.c ≠ 0
  g : rightB x.a = true
/-- What the loop of read keeps. -/
structure RdI (R : Rl) (L : List En) (w : World) (k : Nat) (its : List It) (wr : World) : Prop where
  l : its.length = k
  m : its.map itE = L.take k
  ok : ∀ x ∈ its, ItOk R x
  fb : ∀ j (hj : j < L.length), j < k → fitB R L[j] = true
  r : wr.ownsRow w.heap.size 75 9 (.slice (some ⟨w.heap.size + 1, 0, none⟩) k L.length) k (its.flatMap c9)
  s : ∀ x ∈ its, SReads wr x.v x.D ∧ ∀ b, x.v.ownBlock = some b → w.heap.size + 1 < b
  b : Below w.heap.size w wr
  x : RBox R w.heap.size wr
  z : w.heap.size + 1 < wr.heap.size
theorem row_below {A B : World} {base : Nat} {e : TypeId} {size : Nat} {v : Value} {k : Nat} {xs : List Value} (h : A.ownsRow base e size v k xs) (hb : Below A.heap.size A B) : B.ownsRow base e size v k xs := by
  obtain ⟨h1, h2⟩ := h
  refine ⟨h1, ?_⟩
  rcases h2 with h2 | ⟨g, cap, cur, hv, hg, hw, r⟩
  · exact .inl h2
  · exact .inr ⟨g, cap, cur, hv, hg, (hb.block _ (Array.getElem?_eq_some_iff.1 hw).1).trans hw, r⟩
theorem RdI.below {R : Rl} {L : List En} {w : World} {k : Nat} {its : List It} {wr W : World} (h : RdI R L w k its wr) (hb : Below wr.heap.size wr W) : RdI R L w k its W :=
  ⟨h.l, h.m, h.ok, h.fb, row_below h.r hb, fun x hx => ⟨(h.s x hx).1.below hb, (h.s x hx).2⟩, h.b.trans (hb.mono h.b.size), h.x.below hb, Nat.lt_of_lt_of_le h.z hb.size⟩
theorem sreads_grown {A B : World} {v : Value} {D : List ByteArray} {row : Option Nat} (h : SReads A v D) (hg : A.grownBy B row) (hne : ∀ k, v.ownBlock = some k → row ≠ some k) : SReads B v D := by
  rcases h with h | ⟨b, off, cap, h1, h2, h3, h4, h5, h6, h7⟩
  · exact .inl h
  · refine .inr ⟨b, off, cap, h1, h2, h3, h4, Nat.lt_of_lt_of_le h5 hg.size, fun j hj => ?_, h7⟩
    have hk := hg.block b h5 (Ne.symm (hne b (by rw [h1]; rfl)))
    rw [← h6 j hj]
    exact World.cell?_of_block hk
theorem RdI.snoc {R : Rl} {L : List En} {w : World} {k : Nat} {its : List It} {wr W : World} {y : It} {o : Obj} (h : RdI R L w k its wr) (hk : k < L.length) (hy : itE y = L[k]) (hyo : ItOk R y) (hf : fitB R L[k] = true) (hys : SReads wr y.v y.D) (hyb : ∀ b, y.v.ownBlock = some b → w.heap.size + 1 < b)
    (hown : W.ownsRow w.heap.size 75 9 (.slice (some ⟨w.heap.size + 1, 0, none⟩) (k + 1) L.length) (k + 1) (its.flatMap c9 ++ c9 y)) (hg : (wr.alloc o).grownBy W (some (w.heap.size + 1))) : RdI R L w (k + 1) (its ++ [y]) W := by
  have hsz : wr.heap.size ≤ W.heap.size := by have := hg.size; simp at this; omega
  have hal := (Below.refl wr.heap.size wr).alloc (Nat.le_refl _) o
  have hsr : ∀ {v : Value} {D : List ByteArray}, SReads wr v D → (∀ b, v.ownBlock = some b → w.heap.size + 1 < b) → SReads W v D := fun {v D} h1 h2 => sreads_grown (h1.below hal) hg (fun k hk e => by have := h2 k hk; simp at e; omega)
  refine ⟨by simp [h.l], by rw [List.map_append, h.m, List.take_add_one, List.getElem?_eq_getElem hk, ← hy]; rfl, fun x hx => ?_, fun j hj hjk => ?_, by rw [List.flatMap_append]; simpa using hown, fun x hx => ?_, ?_, ?_, Nat.lt_of_lt_of_le h.z hsz⟩
  · rcases List.mem_append.1 hx with hx | hx
    · exact h.ok x hx
    · obtain rfl : x = y := by simpa using hx
      exact hyo
  · rcases Nat.lt_or_ge j k with h1 | h1
    · exact h.fb j hj h1
    · have : j = k := by omega
      subst this; exact hf
  · rcases List.mem_append.1 hx with hx | hx
    · exact ⟨hsr (h.s x hx).1 (h.s x hx).2, (h.s x hx).2⟩
    · obtain rfl : x = y := by simpa using hx
      exact ⟨hsr hys hyb, hyb⟩
  · exact (h.b.alloc h.b.size o).grown hg (by have := h.z; simp; omega) (fun k hk => by simp at hk; omega)
  · obtain ⟨h1, h2, h3⟩ := h.x.below hal
    have hk := hg.block w.heap.size h1 (by simp)
    exact ⟨Nat.lt_of_lt_of_le h1 hg.size, (World.cell?_of_block hk).trans h2, (World.cell?_of_block hk).trans h3⟩
def RdPost (R : Rl) (L : List En) (w : World) (e : Ending) (w' : World) : Prop :=
  Below w.heap.size w w' ∧ ((fitsB R L = false ∧ e = .returned (.tuple #[.slice none 0 0, .bool false])) ∨ (fitsB R L = true ∧ ∃ a cap xs, e = .returned (.tuple #[.slice a L.length cap, .bool true]) ∧ TReads w' (.slice a L.length cap) xs ∧ xs.map itE = L ∧ ∀ x ∈ xs, ItOk R x))
theorem begin_boxes {w W : World} {o : Obj} (hb : Below w.heap.size (w.alloc o) W) : Below w.heap.size w W := ((Below.refl _ _).alloc (Nat.le_refl _) o).trans hb
set_option maxRecDepth 100000 in
set_option maxHeartbeats 4000000 in
theorem read15_any (R : Rl) (v : Value) (L : List En) (w : World) (hL : Lies R w.heap.size w) (hE : EReads w v L) (hl : L.length ≤ 100000) (hk : ∀ x ∈ L, x.1.length ≤ 1000) :
    Calls Try.prog 30 #[.agg #[.slice R.a R.len R.cap, .int .i64 R.kp], v] w (RdPost R L w) := by
  have HE : Hid (EReads w v L) := hE
  have HL : Hid (Lies R w.heap.size w) := hL
  have HK : Hid _ := hk
  obtain ⟨a, cap, rfl, hm1, hm2⟩ := hE.form
  unfold maxLen at hm2
  clear hE hL hk
  obtain ⟨w1, HW1⟩ := hid_ex (w.alloc (.cells #[.slice R.a R.len R.cap, .int .i64 R.kp] 33))
  have hb1 : Below w.heap.size w w1 := by rw [HW1.out]; exact new_below _ _
  have hx1 : RBox R w.heap.size w1 := by rw [HW1.out]; exact RBox.new R w _
  have hz1s : w1.heap.size = w.heap.size + 1 := by rw [HW1.out]; simp
  obtain ⟨i0, hinf, hz0, hz1, hz2⟩ := info_parts infoIt
  obtain ⟨w2, hr2, hown2, hg2⟩ := run_make_own (P := Try.prog) w1 w.heap.size 68 75 i0 _ 9 Try.underlying68 hinf hz0 hz1 .i64 .i64 L.length (by rw [hz2]; omega) (by unfold maxLen; omega) (by omega)
  rw [hz1s] at hr2 hown2
  have hb12 : Below w1.heap.size w1 w2 := (Below.refl _ _).grown hg2 (Nat.le_refl _) (fun k e => by cases e)
  have HI0 : Hid (RdI R L w 0 [] w2) := ⟨rfl, rfl, fun x hx => (by cases hx), fun j hj h => by omega, hown2, fun x hx => (by cases hx), hb1.trans (hb12.mono (by omega)), hx1.below hb12, (World.ownsRow.lt hown2 _ rfl).2⟩
  clear hown2 hg2 hb1 hx1 hb12 hz2 hz0
  rw [HW1.out] at hr2
  clear HW1 hz1s
  go_enter Try.func30, Try.ntmps30
  go_wp2_with fail
  go_loopw [6, 16] (fun iv i wr => ∃ (k : Nat) (its : List It), k ≤ L.length ∧ i = .int .i64 (k : Int) ∧ iv = .slice (some ⟨w.heap.size + 1, 0, none⟩) k L.length ∧ Hid (RdI R L w k its wr)) (fun _ i _ => L.length - (intOf i).toNat)
  case atStart => exact ⟨0, [], by omega, rfl, rfl, HI0⟩
  case round =>
    clear HI0 hr2
    obtain ⟨k, its, hk, rfl, rfl, HC⟩ := hrel
    by_cases hlt : k < L.length
    · obtain ⟨b, off, cap', hv, hbw⟩ := eReads_some HE.out (by omega)
      simp at hv
      obtain ⟨rfl, rfl⟩ := hv
      obtain ⟨kv, hcw, hRw, hA⟩ := eReads_at HE.out hlt rfl
      have hc : ∀ i (hi : i < 7), wr.cell? ⟨b, off + k * 7 + i, none⟩ = some ((c7 ⟨kv, L[k].1, L[k].2⟩)[i]'hi) := fun i hi => (HC.out.b.cell (p := ⟨b, off + k * 7 + i, none⟩) hbw).trans (hcw i hi)
      have hR := hRw.below HC.out.b
      have hkl := HK.out L[k] (List.getElem_mem hlt)
      have HBAD : Hid (fitB R L[k] = false → fitsB R L = false) := fun h => fitsB_bad hlt h
      have HSN : Hid (∀ {W wr' : World} {y : It} {o : Obj}, RdI R L w k its wr' → itE y = L[k] → ItOk R y → fitB R L[k] = true → SReads wr' y.v y.D → (∀ b, y.v.ownBlock = some b → w.heap.size + 1 < b) → W.ownsRow w.heap.size 75 9 (.slice (some ⟨w.heap.size + 1, 0, none⟩) (k + 1) L.length) (k + 1) (its.flatMap c9 ++ c9 y) → (wr'.alloc o).grownBy W (some (w.heap.size + 1)) → RdI R L w (k + 1) (its ++ [y]) W) := fun h1 h2 h3 h4 h5 h6 h7 h8 => h1.snoc hlt h2 h3 h4 h5 h6 h7 h8
      obtain ⟨X, HX⟩ := hid_ex L[k]
      rw [← HX.out] at hR hRw hA hc hkl HBAD HSN
      clear hcw
      have c0 := hc 0 (by decide)
      have c1 := hc 1 (by decide)
      have c2 := hc 2 (by decide)
      have c3 := hc 3 (by decide)
      have c4 := hc 4 (by decide)
      have c5 := hc 5 (by decide)
      have c6 := hc 6 (by decide)
      simp only [c7, List.getElem_cons_zero, List.getElem_cons_succ, Nat.add_zero] at c0 c1 c2 c3 c4 c5 c6
      obtain ⟨ak, ck, hkv, _⟩ := hR.form
      subst hkv
      obtain ⟨w2, HW2⟩ := hid_ex (wr.alloc (.cells #[.slice ak X.1.length ck, .int .u64 X.2.c, .bool X.2.o, .int .i64 (hi X.2.s), .int .u64 (lo X.2.s), .int .i64 X.2.mn, .int .i64 X.2.mx] 59))
      have hb2 : Below wr.heap.size wr w2 := by rw [HW2.out]; exact (Below.refl _ _).alloc (Nat.le_refl _) _
      have HB2 : Hid (Below wr.heap.size wr w2) := hb2
      have HR2 : Hid (Reads w2 (.slice ak X.1.length ck) X.1) := hR.below hb2
      have HBX : Hid (w2.heap[wr.heap.size]? = some (.cells #[.slice ak X.1.length ck, .int .u64 X.2.c, .bool X.2.o, .int .i64 (hi X.2.s), .int .u64 (lo X.2.s), .int .i64 X.2.mn, .int .i64 X.2.mx] 59)) := by rw [HW2.out]; exact heap_alloc_new _ _
      have HC2 : Hid (RdI R L w k its w2) := HC.out.below hb2
      obtain ⟨kn, Hkn⟩ := hid_ex X.1.length
      rw [← Hkn.out] at c0 HW2 HR2 HBX
      clear hc hR hRw hb2 HC
      go_wp2_with fail
      rw [← HW2.out]
      clear c0 c1 c2 c3 c4 c5 c6 HW2
      refine (read_own _ X.1 hkl _ HR2.out).mono ?_
      rintro e w3 (⟨D, f, gI, vd, hrd, rfl, hkl3, hown3, hb3⟩ | ⟨hrd, rfl, hb3⟩)
      · have hkey := rdF_key hrd
        obtain ⟨g, rfl⟩ : ∃ g : Nat, gI = (g : Int) := ⟨gI.toNat, by omega⟩
        have hg3 : g ≤ 255 := by omega
        have HTK : Hid _ := rdF_taken hrd
        have HFB : Hid (fitB R X = (begB R f g && !(X.2.c == 0) && rightB X.2)) := by have := fitB_of (R := R) hrd; rw [Int.toNat_natCast] at this; exact this
        have HC3 : Hid (RdI R L w k its w3) := HC2.out.below hb3
        have HX3 : Hid (w3.heap[wr.heap.size]? = some (.cells #[.slice ak kn ck, .int .u64 X.2.c, .bool X.2.o, .int .i64 (hi X.2.s), .int .u64 (lo X.2.s), .int .i64 X.2.mn, .int .i64 X.2.mx] 59)) := (hb3.block _ (Array.getElem?_eq_some_iff.1 HBX.out).1).trans HBX.out
        obtain ⟨va, vc, hvd, _⟩ := hkl3.r.form
        simp only at hvd
        subst hvd
        have HSR3 : Hid (SReads w3 (.slice va D.length vc) D) := hkl3.r
        have HOW : Hid (∀ b, (Value.slice va D.length vc).ownBlock = some b → w.heap.size + 1 < b) := fun b hb => by have h1 := hown3 b hb; have h2 := HC2.out.z; omega
        obtain ⟨dn, Hdn⟩ := hid_ex D.length
        rw [← Hdn.out] at HSR3 HOW ⊢
        obtain ⟨w4, HW4⟩ := hid_ex (w3.alloc (.cells #[.slice va dn vc, .int .i64 f, .int .i64 (g : Int)] 73))
        have hb4 : Below w3.heap.size w3 w4 := by rw [HW4.out]; exact new_below _ _
        have HC4 : Hid (RdI R L w k its w4) := HC3.out.below hb4
        have HX4 : Hid (w4.heap[wr.heap.size]? = some (.cells #[.slice ak kn ck, .int .u64 X.2.c, .bool X.2.o, .int .i64 (hi X.2.s), .int .u64 (lo X.2.s), .int .i64 X.2.mn, .int .i64 X.2.mx] 59)) := (hb4.block _ (Array.getElem?_eq_some_iff.1 HX3.out).1).trans HX3.out
        have HY4 : Hid (w4.heap[w3.heap.size]? = some (.cells #[.slice va dn vc, .int .i64 f, .int .i64 (g : Int)] 73)) := by rw [HW4.out]; exact heap_alloc_new _ _
        have HSR4 : Hid (SReads w4 (.slice va dn vc) D) := HSR3.out.below hb4
        have HL4 : Hid (Lies R w4.heap.size w4) := HL.out.at HC4.out.b
        obtain ⟨_, r0, r1⟩ := HC3.out.x
        clear hrd hkl3 hown3 hb3 hb4 HC3 HX3 HSR3 HBX HC2 HB2 HR2 hkey
        go_wp2_with fail
        rw [← HW4.out]
        clear HW4 r0 r1
        refine (begins_any R va dn vc f g hg3 _ HL4.out).mono ?_
        rintro e w5 ⟨rfl, hb5⟩
        have HC5 : Hid (RdI R L w k its w5) := HC4.out.below hb5
        have HX5 : Hid (w5.heap[wr.heap.size]? = some (.cells #[.slice ak kn ck, .int .u64 X.2.c, .bool X.2.o, .int .i64 (hi X.2.s), .int .u64 (lo X.2.s), .int .i64 X.2.mn, .int .i64 X.2.mx] 59)) := (hb5.block _ (Array.getElem?_eq_some_iff.1 HX4.out).1).trans HX4.out
        have HY5 : Hid (w5.heap[w3.heap.size]? = some (.cells #[.slice va dn vc, .int .i64 f, .int .i64 (g : Int)] 73)) := (hb5.block _ (Array.getElem?_eq_some_iff.1 HY4.out).1).trans HY4.out
        have HSR5 : Hid (SReads w5 (.slice va dn vc) D) := HSR4.out.below hb5
        clear hb5 HC4 HX4 HY4 HSR4 HL4
        cases hbg : begB R f g with
        | false =>
          have HEnd : Hid (RdPost R L w (.returned (.tuple #[.slice none 0 0, .bool false])) w5) := ⟨HC5.out.b, .inl ⟨HBAD.out (by rw [HFB.out, hbg]; rfl), rfl⟩⟩
          clear hbg
          go_wp2_with fail
          go_ret2
          exact HEnd.out
        | true =>
          by_cases hc0 : X.2.c = 0
          · have HEnd : Hid (RdPost R L w (.returned (.tuple #[.slice none 0 0, .bool false])) w5) := ⟨HC5.out.b, .inl ⟨HBAD.out (by rw [HFB.out, hc0]; simp), rfl⟩⟩
            have d1 := (cell_row HX5.out 1 (by simp)).1
            simp only [List.getElem_toArray, List.getElem_cons_zero, List.getElem_cons_succ] at d1
            rw [hc0] at d1
            clear hbg hc0
            go_wp2_with fail
            go_ret2
            exact HEnd.out
          · have HC0 : Hid (X.2.c ≠ 0) := hc0
            have hcb : (X.2.c == 0) = false := by simp [hc0]
            have d1 := (cell_row HX5.out 1 (by simp)).1
            have d2 := (cell_row HX5.out 2 (by simp)).1
            have d3 := (cell_row HX5.out 3 (by simp)).1
            have d4 := (cell_row HX5.out 4 (by simp)).1
            have d5 := (cell_row HX5.out 5 (by simp)).1
            have d6 := (cell_row HX5.out 6 (by simp)).1
            simp only [List.getElem_toArray, List.getElem_cons_zero, List.getElem_cons_succ] at d1 d2 d3 d4 d5 d6
            have HBG : Hid (begB R f g = true) := hbg
            clear hbg hc0
            go_wp2_with fail
            refine (right_any X.2 _).mono ?_
            rintro e w6 ⟨rfl, hb6⟩
            have HC6 : Hid (RdI R L w k its w6) := HC5.out.below hb6
            have HX6 : Hid (w6.heap[wr.heap.size]? = some (.cells #[.slice ak kn ck, .int .u64 X.2.c, .bool X.2.o, .int .i64 (hi X.2.s), .int .u64 (lo X.2.s), .int .i64 X.2.mn, .int .i64 X.2.mx] 59)) := (hb6.block _ (Array.getElem?_eq_some_iff.1 HX5.out).1).trans HX5.out
            have HY6 : Hid (w6.heap[w3.heap.size]? = some (.cells #[.slice va dn vc, .int .i64 f, .int .i64 (g : Int)] 73)) := (hb6.block _ (Array.getElem?_eq_some_iff.1 HY5.out).1).trans HY5.out
            have HSR6 : Hid (SReads w6 (.slice va dn vc) D) := HSR5.out.below hb6
            clear hb6 HC5 HX5 HY5 HSR5 d1 d2 d3 d4 d5 d6
            cases hrb : rightB X.2 with
            | false =>
              have HEnd : Hid (RdPost R L w (.returned (.tuple #[.slice none 0 0, .bool false])) w6) := ⟨HC6.out.b, .inl ⟨HBAD.out (by rw [HFB.out, hrb]; simp), rfl⟩⟩
              clear hrb
              go_wp2_with fail
              go_ret2
              exact HEnd.out
            | true =>
              have d1 := (cell_row HX6.out 1 (by simp)).1
              have d2 := (cell_row HX6.out 2 (by simp)).1
              have d3 := (cell_row HX6.out 3 (by simp)).1
              have d4 := (cell_row HX6.out 4 (by simp)).1
              have d5 := (cell_row HX6.out 5 (by simp)).1
              have d6 := (cell_row HX6.out 6 (by simp)).1
              have e0 := (cell_row HY6.out 0 (by simp)).1
              have e1 := (cell_row HY6.out 1 (by simp)).1
              have e2 := (cell_row HY6.out 2 (by simp)).1
              simp only [List.getElem_toArray, List.getElem_cons_zero, List.getElem_cons_succ] at d1 d2 d3 d4 d5 d6 e0 e1 e2
              obtain ⟨w7, hrun, hown7, hg7⟩ := run_append_fits (P := Try.prog) (w6.alloc (.cells (c9 ⟨.slice va dn vc, D, f, g, X.2⟩).toArray 75)) w.heap.size 68 68 75 i0 9 Try.underlying68 hinf hz1 (w.heap.size + 1) k L.length (its.flatMap c9) (HC6.out.r.alloc _) ⟨w6.heap.size, 0, none⟩ 1 1 (c9 ⟨.slice va dn vc, D, f, g, X.2⟩) rfl (news7 w6 _) (one9 rfl) (by omega)
              have HN : Hid (RdI R L w (k + 1) (its ++ [⟨.slice va dn vc, D, f, g, X.2⟩]) w7) := HSN.out HC6.out (by unfold itE; dsimp only; rw [HTK.out.2]) ⟨HTK.out.1, HBG.out, hA, HC0.out, hrb⟩ (by rw [HFB.out, HBG.out, hcb, hrb]; rfl) HSR6.out HOW.out hown7 hg7
              unfold c9 at hrun
              dsimp only at hrun
              clear hrb hown7 hg7
              go_wp2_with (at_builtin; refine wpList_app_run rfl _ _ _ _ rfl rfl _ _ _ rfl rfl hrun ?_)
              clear hrun d1 d2 d3 d4 d5 d6 e0 e1 e2
              (try go_wp2_with fail)
              go_roundw
              case rel => exact ⟨k + 1, _, by omega, by go_num, rfl, HN⟩
              case measure => simp [intOf]; omega
      · have HEnd : ∀ W, Hid (Below w.heap.size w W) → RdPost R L w (.returned (.tuple #[.slice none 0 0, .bool false])) W := fun W hW => ⟨hW.out, .inl ⟨HBAD.out (fitB_no hrd), rfl⟩⟩
        have HB3 : Hid (Below w.heap.size w (w3.alloc (.cells #[.slice none 0 0, .int .i64 0, .int .i64 0] 73))) := ((HC2.out.below hb3).b).alloc ((HC2.out.below hb3).b).size _
        have HE2 : Hid (RdPost R L w (.returned (.tuple #[.slice none 0 0, .bool false])) (w3.alloc (.cells #[.slice none 0 0, .int .i64 0, .int .i64 0] 73))) := HEnd _ HB3
        clear hrd hb3 HEnd
        go_wp2_with fail
        go_ret2
        exact HE2.out
    · obtain rfl : k = L.length := by omega
      have HEnd : Hid (RdPost R L w (.returned (.tuple #[.slice (some ⟨w.heap.size + 1, 0, none⟩) L.length L.length, .bool true])) wr) := ⟨HC.out.b, .inr ⟨fitsB_all (fun j hj => HC.out.fb j hj hj), _, _, its, rfl, tReads_of HC.out.r HC.out.l (fun x hx => (HC.out.s x hx).1), by rw [HC.out.m, List.take_length], HC.out.ok⟩⟩
      go_wp2_with fail
      go_ret2
      exact HEnd.out
end Go.Proofs.Ytbadjigfcncfcaa

/- The contracts of fold's checked, Stale and Fits. -/
namespace Go.Proofs.Ytbadjigfcncfcaa
open Go.RowKit

def ChPost (R : Rl) (wm : Int) (L : List En) (w : World) (e : Ending) (w' : World) : Prop :=
  Below w.heap.size w w' ∧ ((chkF R wm L ≠ 0 ∧ e = .returned (.tuple #[.slice none 0 0, .int .i64 (chkF R wm L)])) ∨ (chkF R wm L = 0 ∧ ∃ a cap xs, e = .returned (.tuple #[.slice a L.length cap, .int .i64 0]) ∧ TReads w' (.slice a L.length cap) xs ∧ xs.map itE = L ∧ ∀ x ∈ xs, ItOk R x))
theorem chkF_e {R : Rl} {wm : Int} {L : List En} (h : fE R 0 wm ≠ 0) : chkF R wm L = fE R 0 wm := by unfold chkF; rw [if_pos h]
theorem chkF_50 {R : Rl} {wm : Int} {L : List En} (h : fE R 0 wm = 0) (hs : ¬ SrtE L) : chkF R wm L = 50 := by unfold chkF; rw [if_neg (fun h2 => h2 h), if_neg hs]
theorem chkF_3 {R : Rl} {wm : Int} {L : List En} (h : fE R 0 wm = 0) (hs : SrtE L) (hf : ¬ FitL R L) : chkF R wm L = 3 := by unfold chkF; rw [if_neg (fun h2 => h2 h), if_pos hs, if_neg hf]
theorem srt_bad {L : List En} {k : Nat} (hk : k + 1 < L.length) (h : ¬ ltK (L[k]'(by omega)).1 L[k + 1].1) : ¬ SrtE L := by
  intro hp
  have := List.pairwise_iff_getElem.1 hp k (k + 1) (by simp [keysE]; omega) (by simpa [keysE] using hk) (by omega)
  simp only [keysE, List.getElem_map] at this
  exact h this
theorem RBox.at {R : Rl} {b : Nat} {w : World} (h : RBox R b w) : w.cell? ⟨b, 0, none⟩ = some (.slice R.a R.len R.cap) ∧ w.cell? ⟨b, 1, none⟩ = some (.int .i64 R.kp) := h.2
set_option maxRecDepth 100000 in
set_option maxHeartbeats 4000000 in
theorem checked_any (R : Rl) (wm : Int) (v : Value) (L : List En) (w : World) (hL : Lies R w.heap.size w) (hE : EReads w v L) (hl : L.length ≤ 100000) (hk : ∀ x ∈ L, x.1.length ≤ 1000) :
    Calls Try.prog 27 #[.agg #[.slice R.a R.len R.cap, .int .i64 R.kp], .int .i64 wm, v] w (ChPost R wm L w) := by
  have HE : Hid (EReads w v L) := hE
  have HL : Hid (Lies R w.heap.size w) := hL
  have HK : Hid _ := hk
  obtain ⟨a, cap, rfl, hm1, hm2⟩ := hE.form
  unfold maxLen at hm2
  clear hE hL hk
  obtain ⟨w1, HW1⟩ := hid_ex (w.alloc (.cells #[.slice R.a R.len R.cap, .int .i64 R.kp] 33))
  have hb1 : Below w.heap.size w w1 := by rw [HW1.out]; exact new_below _ _
  have HX1 : Hid (RBox R w.heap.size w1) := by rw [HW1.out]; exact RBox.new R w _
  have HL1 : Hid (Lies R w1.heap.size w1) := HL.out.at hb1
  have HB1 : Hid _ := hb1
  clear hb1
  go_enter Try.func27, Try.ntmps27
  go_wp2_with fail
  rw [← HW1.out]
  clear HW1
  refine (fault15_any R wm _ HL1.out).mono ?_
  rintro e w2 ⟨rfl, hb2⟩
  have HB2 : Hid (Below w.heap.size w w2) := HB1.out.trans (hb2.mono HB1.out.size)
  have HX2 : Hid (RBox R w.heap.size w2) := HX1.out.below hb2
  clear hb2 HB1 HX1 HL1
  by_cases hf : fE R 0 wm = 0
  · have HF : Hid (fE R 0 wm = 0) := hf
    have HR : Hid (RightP R) := (fE_ok hf).1
    rw [hf]
    clear hf
    go_wp2_with fail
    go_loopw [9] (fun i wr => ∃ k : Nat, i = .int .i64 ((k + 1 : Nat) : Int) ∧ (k = 0 ∨ k + 1 ≤ L.length) ∧ Hid (((keysE L).take (k + 1)).Pairwise ltK) ∧ Hid (Below w.heap.size w wr) ∧ Hid (RBox R w.heap.size wr)) (fun i _ => L.length - (intOf i).toNat)
    case atStart =>
      refine ⟨0, rfl, .inl rfl, ?_, HB2, HX2⟩
      cases hk0 : keysE L with
      | nil => exact List.Pairwise.nil
      | cons x l => exact List.pairwise_singleton _ _
    case round =>
      obtain ⟨k, rfl, hk, HP, HB, HX⟩ := hrel
      clear HB2 HX2
      by_cases hlt : k + 1 < L.length
      · obtain ⟨b, off, cap', hv, hbw⟩ := eReads_some HE.out (by omega)
        simp at hv
        obtain ⟨rfl, rfl⟩ := hv
        obtain ⟨kv, hcw, hRw, _⟩ := eReads_at HE.out (k := k) (by omega) rfl
        obtain ⟨kv', hcw', hRw', _⟩ := eReads_at HE.out hlt rfl
        have c0 : wr.cell? ⟨b, off + k * 7, none⟩ = some kv := (HB.out.cell (p := ⟨b, off + k * 7, none⟩) hbw).trans (hcw 0 (by decide))
        have c1 : wr.cell? ⟨b, off + (k + 1) * 7, none⟩ = some kv' := (HB.out.cell (p := ⟨b, off + (k + 1) * 7, none⟩) hbw).trans (hcw' 0 (by decide))
        have HKL : Hid (k + 1 < (keysE L).length) := by unfold Hid keysE; simpa using hlt
        have HPN : Hid (ltK (L[k]'(by omega)).1 L[k + 1].1 → ((keysE L).take (k + 1 + 1)).Pairwise ltK) := fun h => pw_snoc HKL.out HP.out (fun h0 => by simpa [keysE] using h)
        have HBD : Hid (¬ ltK (L[k]'(by omega)).1 L[k + 1].1 → chkF R wm L = 50) := fun h => chkF_50 HF.out (srt_bad hlt h)
        have hR0 := hRw.below HB.out
        have hR1 := hRw'.below HB.out
        obtain ⟨Y, HY⟩ := hid_ex (L[k]'(by omega)).1
        obtain ⟨Z, HZ⟩ := hid_ex (L[k + 1]'hlt).1
        rw [← HY.out] at hR0 HPN HBD
        rw [← HZ.out] at hR1 HPN HBD
        obtain ⟨ay, cy, hkv, _⟩ := hR0.form
        subst hkv
        obtain ⟨az, cz, hkv, _⟩ := hR1.form
        subst hkv
        have HR0 : Hid (Reads wr (.slice ay Y.length cy) Y) := hR0
        have HR1 : Hid (Reads wr (.slice az Z.length cz) Z) := hR1
        obtain ⟨yn, Hyn⟩ := hid_ex Y.length
        obtain ⟨zn, Hzn⟩ := hid_ex Z.length
        rw [← Hyn.out] at c0 HR0
        rw [← Hzn.out] at c1 HR1
        obtain ⟨cc, HC⟩ := hid_ex (Lib.compareBytes Y Z)
        clear hcw hcw' hRw hRw' hR0 hR1 HKL HY HZ Hyn Hzn
        by_cases hlk : ltK Y Z
        · have hcc : decide (0 ≤ cc) = false := by rw [HC.out]; unfold ltK at hlk; rw [hlk]; rfl
          have HPP : Hid _ := HPN.out hlk
          clear hlk HBD HPN
          go_wp2_with fail
          go_quiet (exact (cmp_any _ _ Y Z _ (HR0.out.below (below_drewN (Below.refl _ _) _)) (HR1.out.below (below_drewN (Below.refl _ _) _))).mono (fun e w h => ⟨by rw [h.1, ← HC.out], _, h.2⟩))
          have HB3 : Hid (Below w.heap.size w (wr.drewN nq)) := below_drewN HB.out nq
          have HX3 : Hid (RBox R w.heap.size (wr.drewN nq)) := HX.out
          clear c0 c1
          go_wp2_with fail
          go_roundw
          case rel => exact ⟨k + 1, by go_num, .inr (by omega), HPP, HB3, HX3⟩
          case measure => simp [intOf]; omega
        · have hcc : decide (0 ≤ cc) = true := by rw [HC.out]; exact decide_eq_true (cmp_ge.2 hlk)
          have HEnd : Hid (∀ W, Below w.heap.size w W → ChPost R wm L w (.returned (.tuple #[.slice none 0 0, .int .i64 50])) W) := fun W hW => by
            have h5 := HBD.out hlk
            refine ⟨hW, .inl ⟨by rw [h5]; decide, by rw [h5]⟩⟩
          clear hlk HBD HPN
          go_wp2_with fail
          go_quiet (exact (cmp_any _ _ Y Z _ (HR0.out.below (below_drewN (Below.refl _ _) _)) (HR1.out.below (below_drewN (Below.refl _ _) _))).mono (fun e w h => ⟨by rw [h.1, ← HC.out], _, h.2⟩))
          have HE3 : Hid (ChPost R wm L w (.returned (.tuple #[.slice none 0 0, .int .i64 50])) (wr.drewN nq)) := HEnd.out _ (below_drewN HB.out nq)
          clear c0 c1
          go_wp2_with fail
          go_ret2
          exact HE3.out
      · have HSR : Hid (SrtE L) := by
          have := HP.out
          rw [List.take_of_length_le (by unfold keysE; simp; omega)] at this
          exact this
        obtain ⟨r0, r1⟩ := HX.out.at
        have HLr : Hid (Lies R wr.heap.size wr) := HL.out.at HB.out
        have HEr : Hid (EReads wr (.slice a L.length cap) L) := HE.out.below HB.out
        go_wp2_with fail
        refine (read15_any R _ L _ HLr.out HEr.out hl HK.out).mono ?_
        rintro e w4 ⟨hb4, ⟨hfb, rfl⟩ | ⟨hfb, xa, xc, xs, rfl, ht, hm, hok⟩⟩
        · have hn : ¬ FitL R L := fun h => by rw [(fitsB_iff HR.out).2 h] at hfb; cases hfb
          have h3 := chkF_3 HF.out HSR.out hn
          have HEnd : Hid (ChPost R wm L w (.returned (.tuple #[.slice none 0 0, .int .i64 3])) w4) := ⟨HB.out.trans (hb4.mono HB.out.size), .inl ⟨by rw [h3]; decide, by rw [h3]⟩⟩
          clear hfb hn h3 hb4 r0 r1
          go_wp2_with fail
          go_ret2
          exact HEnd.out
        · have h0 := chkF_of HF.out HSR.out ((fitsB_iff HR.out).1 hfb)
          have HEnd : Hid (ChPost R wm L w (.returned (.tuple #[.slice xa L.length xc, .int .i64 0])) w4) := ⟨HB.out.trans (hb4.mono HB.out.size), .inr ⟨h0, xa, xc, xs, rfl, ht, hm, hok⟩⟩
          clear hfb h0 hb4 r0 r1 ht hm hok
          go_wp2_with fail
          go_ret2
          exact HEnd.out
  · have hb0 : (fE R 0 wm == 0) = false := by simp [hf]
    have h3 := chkF_e (L := L) hf
    have HEnd : Hid (ChPost R wm L w (.returned (.tuple #[.slice none 0 0, .int .i64 (fE R 0 wm)])) w2) := ⟨HB2.out, .inl ⟨by rw [h3]; exact hf, by rw [h3]⟩⟩
    clear hf h3
    generalize fE R 0 wm = rr at *
    go_wp2_with fail
    go_ret2
    exact HEnd.out
end Go.Proofs.Ytbadjigfcncfcaa
