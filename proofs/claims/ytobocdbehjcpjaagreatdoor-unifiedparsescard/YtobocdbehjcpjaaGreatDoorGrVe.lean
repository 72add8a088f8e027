/-
  Several texts in one: Ve, Vf.
-/
import Derived.Test.YtobocdbehjcpjaaGreatDoorVd
import Derived.Test.YtobocdbehjcpjaaGreatDoorU5
import Derived.Maps.AppendAt
/-
  Both Parse's of layer 11, side by side. (Made by wip/genluparses.py.)
-/
namespace Go.Proofs.YtobocdbehjcpjaaGreatDoor
open Go.RowKit
open Hu (Rw Hk)

theorem hunksF_few : ∀ (f : Nat) (ls : List Un.Bs) (c : Nat) (acc hs : List Hk) (c' : Nat), Un.hunksF f ls c acc = .ok hs c' → hs.length ≤ acc.length + ls.length
  | 0, _, _, _, _, _, h => by rw [Un.hunksF] at h; cases h
  | _ + 1, [], c, acc, hs, c', h => by
    rw [Un.hunksF] at h
    rw [(Un.fin_ok h).1]
    exact Nat.le_add_right _ _
  | f + 1, x :: ls, c, acc, hs, c', h => by
    rw [Un.hunksF] at h
    rw [List.length_cons]
    split at h
    · split at h
      · cases h
      · rename_i p _
        split at h
        · cases h
        · rename_i rows ls' c2 hr
          split at h
          · split at h
            · have h2 := (Un.rowsP_drop _ _ _ _ _ _ _ _ (Nat.le_refl _) hr).2
              have h3 := hunksF_few f ls' c2 _ hs c' h
              rw [List.length_append, List.length_singleton] at h3
              have h4 : ls'.length ≤ ls.length := by rw [h2, List.length_drop]; omega
              omega
            · cases h
          · cases h
    · rw [(Un.fin_ok h).1]
      omega
theorem hunksF_sz : ∀ (f : Nat) (ls : List Un.Bs) (c : Nat) (acc hs : List Hk) (c' : Nat), (∀ x ∈ ls, x.length ≤ 4194305) → ls.length ≤ 4194305 → (∀ h ∈ acc, SzH h) → Un.hunksF f ls c acc = .ok hs c' → ∀ h ∈ hs, SzH h
  | 0, _, _, _, _, _, _, _, _, h => by rw [Un.hunksF] at h; cases h
  | _ + 1, [], c, acc, hs, c', _, _, ha, h => by
    rw [Un.hunksF] at h
    rw [← (Un.fin_ok h).1]
    exact ha
  | f + 1, x :: ls, c, acc, hs, c', hx, hl, ha, h => by
    rw [Un.hunksF] at h
    split at h
    · split at h
      · cases h
      · rename_i p hp
        split at h
        · cases h
        · rename_i rows ls' c2 hr
          split at h
          · split at h
            · have h2 := (Un.rowsP_drop _ _ _ _ _ _ _ _ (Nat.le_refl _) hr).2
              have h3 := rows_le _ _ _ _ _ _ _ _ 4194305 (Nat.le_refl _) (fun z hz => hx z (List.mem_cons_of_mem _ hz)) hr
              rw [List.length_cons] at hl
              have h4 := place_head hp
              have h5 := bare_le x
              have h6 := hx x List.mem_cons_self
              refine hunksF_sz f ls' c2 _ hs c' (fun z hz => hx z (List.mem_cons_of_mem _ (by rw [h2] at hz; exact List.mem_of_mem_drop hz))) (by rw [h2, List.length_drop]; omega) (fun g hg => ?_) h
              rcases List.mem_append.1 hg with hg | hg
              · exact ha g hg
              · rw [List.mem_singleton.1 hg]
                unfold SzH Un.mkHk
                refine ⟨?_, ?_, ?_⟩
                · show (rows.map Un.toR).length < _
                  rw [List.length_map]
                  omega
                · intro r hr'
                  obtain ⟨q, hq, rfl⟩ := List.mem_map.1 hr'
                  have := h3.2 q hq
                  show (bB q.2).size ≤ _
                  rw [← dsize, bB_data]
                  unfold maxLen
                  omega
                · show (bB p.head).size ≤ _
                  rw [← dsize, bB_data]
                  unfold maxLen
                  omega
            · cases h
          · cases h
    · rw [← (Un.fin_ok h).1]
      exact ha
theorem parse_hunks {s : Un.Bs} {o q : Un.Bs × Un.Bs} {hs : List Hk} {rest : Un.Bs} (h : Un.parse s = .ok o q hs rest) : s.length ≤ 4194304 ∧ ∃ c', Un.hunksF (s.length + 1) (Un.lns (Un.advN 2 s)) 3 [] = .ok hs c' := by
  unfold Un.parse at h
  split at h
  · cases h
  · rename_i hlen
    split at h
    · cases h
    · split at h
      · cases h
      · split at h
        · cases h
        · rename_i hs2 c2 he
          cases h
          exact ⟨by omega, c2, he⟩
theorem advN_le : ∀ (k : Nat) (s : Un.Bs), (Un.advN k s).length ≤ s.length
  | 0, _ => Nat.le_refl _
  | k + 1, s => Nat.le_trans (advN_le k (Un.adv s)) (Un.adv_len s)
theorem parse_few {s : Un.Bs} {o q : Un.Bs × Un.Bs} {hs : List Hk} {rest : Un.Bs} (h : Un.parse s = .ok o q hs rest) : hs.length ≤ 4194304 := by
  obtain ⟨h1, c', h2⟩ := parse_hunks h
  have h3 := hunksF_few _ _ _ _ _ _ h2
  have h4 := Un.lns_le (Un.advN 2 s)
  have h5 := advN_le 2 s
  simp at h3
  omega
theorem parse_sz {s : Un.Bs} {o q : Un.Bs × Un.Bs} {hs : List Hk} {rest : Un.Bs} (h : Un.parse s = .ok o q hs rest) : ∀ h ∈ hs, SzH h := by
  obtain ⟨h1, c', h2⟩ := parse_hunks h
  have h4 := Un.lns_le (Un.advN 2 s)
  have h5 := advN_le 2 s
  exact hunksF_sz _ _ _ _ _ _ (fun x hx => by have := (Un.lns_ok hx).2; omega) (by omega) (fun h hh => by cases hh) h2
/-- what both answer -/
structure Both (s : ByteArray) (o1 o2 q1 q2 rest : ByteArray) (l : List Hk) (c er : Nat) (ev : Value) : Prop where
  prog : ∀ w1, LibV w1 → Calls Tryz.prog 16 #[.string s] w1 fun e w' => Below w1.heap.size w1 w' ∧ ∃ va vc, e = .returned (.tuple #[.agg #[.string o1, .string o2], .agg #[.string q1, .string q2], .slice va l.length vc, .string rest, .int .i64 (c : Nat), ev]) ∧ OwnH w' w1.heap.size (.slice va l.length vc) l
  ref : ∀ w1, Calls Tryz.prog 17 #[.string s] w1 fun e w' => Below w1.heap.size w1 w' ∧ ∃ va vc, e = .returned (.tuple #[.agg #[.string o1, .string o2], .agg #[.string q1, .string q2], .slice va l.length vc, .string rest, .int .i64 (c : Nat), .int .i64 (er : Nat)]) ∧ RdH w' (.slice va l.length vc) l
  num : ∀ w1, ErrVar w1 → Calls Tryz.prog 11 #[ev] w1 fun e w' => e = .returned (.int .i64 (er : Nat)) ∧ Below w1.heap.size w1 w'
  short : l.length ≤ 5000000
  sz : ∀ h ∈ l, SzH h
theorem both_any (s : ByteArray) (hs : s.size ≤ maxLen) : ∃ o1 o2 q1 q2 rest l c er ev, Both s o1 o2 q1 q2 rest l c er ev := by
  cases hp : Un.parse s.data.toList with
  | bad c er =>
    refine ⟨⟨#[]⟩, ⟨#[]⟩, ⟨#[]⟩, ⟨#[]⟩, ⟨#[]⟩, [], c, er, .iface 54 (.int .i64 (er : Nat)), ⟨fun w1 hv => ?_, fun w1 => ?_, fun w1 he => num_errno _ _ he, by decide, fun h hh => by cases hh⟩⟩
    · refine (pa_bad hp hv hs).mono ?_
      rintro e w' ⟨hb, rfl⟩
      exact ⟨hb, none, 0, rfl, OwnH.nil _ _⟩
    · refine (rParse11_any (w := w1) hs).mono ?_
      rintro e w' ⟨hb, ha⟩
      rw [hp] at ha
      have he : e = _ := ha
      subst he
      exact ⟨hb, none, 0, rfl, (OwnH.nil _ 0).rd⟩
  | ok o q hs' rest =>
    refine ⟨bB o.1, bB o.2, bB q.1, bB q.2, bB rest, hs', 0, 0, .nilIface, ?_⟩
    have hl : hs'.length ≤ 5000000 ∧ ∀ h ∈ hs', SzH h := ⟨Nat.le_trans (parse_few hp) (by decide), parse_sz hp⟩
    refine ⟨fun w1 hv => ?_, fun w1 => ?_, fun w1 he => num_nil _, hl.1, hl.2⟩
    · refine (pa_ok hp hv hs).mono ?_
      rintro e w' ⟨hb, va, vc, rfl, hO, _, _⟩
      exact ⟨hb, va, vc, rfl, hO⟩
    · refine (rParse11_any (w := w1) hs).mono ?_
      rintro e w' ⟨hb, ha⟩
      rw [hp] at ha
      obtain ⟨v, rfl, hO, _, _⟩ := ha
      obtain ⟨va, vc, rfl⟩ := hO.shape
      exact ⟨hb, va, vc, rfl, hO.rd⟩
end Go.Proofs.YtobocdbehjcpjaaGreatDoor
/-
  Hunks whose rows are written over and grow: what stays; append to a row of the call's own, with what becomes of all other rows.
-/
namespace Go.Proofs.YtobocdbehjcpjaaGreatDoor
open Go.RowKit
open Hu (Rw Hk)

/-- blocks of rows from B on may hold something else, as many cells; all else is as it was -/
structure Rowed (B : Nat) (w w' : World) : Prop where
  os : w'.os = w.os
  tape : w'.tape = w.tape
  output : w'.output = w.output
  size : w.heap.size ≤ w'.heap.size
  block : ∀ k, k < w.heap.size → w'.heap[k]? = w.heap[k]? ∨ (B ≤ k ∧ ∃ c c' : Array Value, w.heap[k]? = some (.cells c 52) ∧ w'.heap[k]? = some (.cells c' 52) ∧ c'.size = c.size)
theorem Rowed.onto {B : Nat} {w0 w w' : World} (h : Rowed B w w') (hb : Below B w0 w) (hB : B ≤ w0.heap.size) : Below B w0 w' :=
  ⟨h.os.trans hb.os, h.tape.trans hb.tape, h.output.trans hb.output, Nat.le_trans hb.size h.size, fun k hk => by
    rcases h.block k (Nat.lt_of_lt_of_le hk (Nat.le_trans hB hb.size)) with e | ⟨h1, _⟩
    · exact e.trans (hb.block k hk)
    · omega⟩
theorem Rowed.own {B B2 n : Nat} {w w' : World} {v : Value} {xs : List Value} (h : Rowed B w w') (ho : w.ownsRow B2 52 2 v n xs) : ∃ xs', w'.ownsRow B2 52 2 v n xs' := by
  rcases ho.2 with ⟨hv, hn⟩ | ⟨g, cap, cur, hv, hB, hh, hc, hm, hs, ht⟩
  · exact ⟨xs, ho.1, .inl ⟨hv, hn⟩⟩
  · rcases h.block g (lt_of_heap hh) with e | ⟨_, c, c', h1, h2, h3⟩
    · exact ⟨xs, ho.1, .inr ⟨g, cap, cur, hv, hB, e.trans hh, hc, hm, hs, ht⟩⟩
    · rw [hh] at h1
      have e4 : cur = c := by simp at h1; exact h1
      subst e4
      refine ⟨c'.toList.take (n * 2), ?_, .inr ⟨g, cap, c', hv, hB, h2, hc, hm, by rw [h3, hs], rfl⟩⟩
      rw [List.length_take, Array.length_toList, h3, hs]
      omega
theorem Rowed.hunk {B g : Nat} {w w' : World} {cur : Array Value} (h : Rowed B w w') (hh : w.heap[g]? = some (.cells cur 37)) : w'.heap[g]? = some (.cells cur 37) := by
  rcases h.block g (lt_of_heap hh) with e | ⟨_, c, c', h1, _⟩
  · exact e.trans hh
  · rw [hh] at h1
    simp at h1
theorem Rowed.set {B g j : Nat} {w : World} {c : Array Value} {u : Value} (hg : w.heap[g]? = some (.cells c 52)) (hB : B ≤ g) : Rowed B w (w.setCell ⟨g, j, none⟩ u) :=
  ⟨rfl, rfl, rfl, by simp [World.setCell], fun k hk => by
    by_cases e : k = g
    · subst e
      exact .inr ⟨hB, c, _, hg, set_heap w k j _ _ u hg, by simp⟩
    · exact .inl (Below.heap_setCell _ _ _ _ e)⟩
theorem Rowed.trans {B : Nat} {w w1 w2 : World} (h : Rowed B w w1) (k : Rowed B w1 w2) : Rowed B w w2 :=
  ⟨k.os.trans h.os, k.tape.trans h.tape, k.output.trans h.output, Nat.le_trans h.size k.size, fun q hq => by
    rcases h.block q hq with e | ⟨hB, c, c', h1, h2, h3⟩
    · rcases k.block q (Nat.lt_of_lt_of_le hq h.size) with e2 | ⟨hB, c, c', k1, k2, k3⟩
      · exact .inl (e2.trans e)
      · exact .inr ⟨hB, c, c', e ▸ k1, k2, k3⟩
    · rcases k.block q (Nat.lt_of_lt_of_le hq h.size) with e2 | ⟨_, d, d', k1, k2, k3⟩
      · exact .inr ⟨hB, c, c', h1, e2.trans h2, h3⟩
      · rw [h2] at k1
        have e4 : c' = d := by simp at k1; exact k1
        subst e4
        exact .inr ⟨hB, c, d', h1, k2, k3.trans h3⟩⟩
theorem Rowed.of {B : Nat} {w w' : World} (hb : Below w.heap.size w w') : Rowed B w w' :=
  ⟨hb.os, hb.tape, hb.output, hb.size, fun k hk => .inl (hb.block k hk)⟩
theorem own_of {w : World} {B g n cap : Nat} {cur : Array Value} (hh : w.heap[g]? = some (.cells cur 52)) (hB : B ≤ g) (hc : n ≤ cap) (hm : cap ≤ maxLen) (hs : cur.size = cap * 2) : ∃ xs, w.ownsRow B 52 2 (.slice (some ⟨g, 0, none⟩) n cap) n xs := by
  refine ⟨cur.toList.take (n * 2), ?_, .inr ⟨g, cap, cur, rfl, hB, hh, hc, hm, hs, rfl⟩⟩
  rw [List.length_take, Array.length_toList, hs]
  omega
theorem run_append_rowed {w : World} {B n m g c : Nat} {v : Value} {xs : List Value} (ty : TypeId) (hown : w.ownsRow B 52 2 v n xs) (news : List Value) (hl : news.length = m * 2) (hnews : ∀ j u, news[j]? = some u → w.cell? ((⟨g, 0, none⟩ : Addr).add j) = some u) (h1 : ∀ u ∈ news, u.oneCell' = true) (hm : 0 < m) (h63 : n + m ≤ maxLen) (hbytes : (n + m) * 24 ≤ 140737488355328) (hbase : B ≤ w.heap.size) :
    ∃ v' w' xs', (Builtin.append_ #[35, 35] ty #[v, .slice (some ⟨g, 0, none⟩) m c]).run Tryz.prog w = .ok v' w' ∧ w'.ownsRow B 52 2 v' (n + m) xs' ∧ Rowed B w w' := by
  obtain ⟨i0, hi, hz0, hz1, hz2⟩ := info_parts Tryz.infoRow
  have hsmall : n + m ≤ 9223372036854775807 := by simp only [maxLen] at h63; omega
  have hzc : (Value.agg #[.int .i64 0, .string .empty]).cells.size = 2 := rfl
  have grown : ∀ (w1 : World) (cs : Array Value), cs.size = grownCap w (n + m) 0 52 * 2 → True := fun _ _ _ => trivial
  rcases hown.2 with ⟨rfl, rfl⟩ | ⟨g1, cap, cur, rfl, hbg, hg, hnc, hcm, hcs, htake⟩
  · have hr := run_append_nil (P := Tryz.prog) w 35 ty 52 i0 _ Tryz.underlying35 hi hz0 ⟨g, 0, none⟩ m c news (by rw [hz1]; exact hl) hnews hm (by omega) (by rw [hz2]; omega)
    have hge := grownCap_ge w m 0 52
    have hle := grownCap_le_maxLen w m 0 52 (by omega)
    obtain ⟨xs', ho⟩ := own_of (w := w.drew.alloc _) (n := m) (heap_alloc_new w.drew (.cells (news.toArray ++ Builtin.zeroCells (Value.agg #[.int .i64 0, .string .empty]).cells (grownCap w m 0 52 - m)) 52)) hbase hge hle (by
      simp only [Array.size_append, List.size_toArray, size_zeroCells, hzc, hl]
      omega)
    refine ⟨_, _, xs', hr, ?_, ⟨rfl, rfl, rfl, by simp, fun k hk => .inl (Go.heap_alloc_old w.drew _ hk)⟩⟩
    rw [Nat.zero_add]
    exact ho
  · by_cases hroom : n + m ≤ cap
    · have hfit : n * i0.size + news.length ≤ cur.size := by rw [hz1, hl, hcs]; omega
      have hr := run_append_room (P := Tryz.prog) w 35 ty 52 i0 Tryz.underlying35 hi g1 n cap cur hg ⟨g, 0, none⟩ m c news (by rw [hz1]; exact hl) hnews h1 hroom hfit
      have hsz : (cur.toList.take (n * i0.size) ++ news ++ cur.toList.drop (n * i0.size + news.length)).toArray.size = cur.size := by
        simp only [List.size_toArray, List.length_append, List.length_take, List.length_drop, Array.length_toList]
        omega
      have hh := setRow_heap w g1 cur (cur.toList.take (n * i0.size) ++ news ++ cur.toList.drop (n * i0.size + news.length)).toArray _ hg
      obtain ⟨xs', ho⟩ := own_of (n := n + m) hh hbg hroom hcm (by rw [hsz, hcs])
      refine ⟨_, _, xs', hr, ho, ⟨rfl, rfl, rfl, by rw [setRow_size]; exact Nat.le_refl _, fun k hk => ?_⟩⟩
      by_cases e : k = g1
      · subst e
        exact .inr ⟨hbg, cur, _, hg, hh, hsz⟩
      · exact .inl (setRow_other w _ e)
    · have holds : ∀ j u, xs[j]? = some u → w.cell? ((⟨g1, 0, none⟩ : Addr).add j) = some u := hown.cells (g := g1) rfl
      have hr := run_append_grow (P := Tryz.prog) w 35 ty 52 i0 _ Tryz.underlying35 hi hz0 ⟨g1, 0, none⟩ n cap xs (by rw [hz1]; exact hown.1) holds ⟨g, 0, none⟩ m c news (by rw [hz1]; exact hl) hnews (by omega) (by omega) (by rw [hz2]; exact growslice_fits (by omega) hbytes)
      have hge := grownCap_ge w (n + m) cap 52
      have hle := grownCap_le_maxLen w (n + m) cap 52 h63
      obtain ⟨xs', ho⟩ := own_of (w := w.drew.alloc _) (n := n + m) (heap_alloc_new w.drew (.cells (xs.toArray ++ news.toArray ++ Builtin.zeroCells (Value.agg #[.int .i64 0, .string .empty]).cells (grownCap w (n + m) cap 52 - (n + m))) 52)) hbase hge hle (by
        simp only [Array.size_append, List.size_toArray, size_zeroCells, hzc, hl, hown.1]
        omega)
      exact ⟨_, _, xs', hr, ho, ⟨rfl, rfl, rfl, by simp, fun k hk => .inl (Go.heap_alloc_old w.drew _ hk)⟩⟩
theorem wpList_append_rowed {w : World} {ops : Array Oper} {rest : List Oper} {o : Oper} {a : Act} {Q : Exit → Act → World → Prop} (hgd : o.guard = none) (s x : Operand)
    (ho : o.op = .call { callee := .builtin .append, args := #[s, x], argTypes := #[35, 35] }) (B n m g c : Nat) (v : Value) (xs : List Value) (hs : a.eval s = v) (hown : w.ownsRow B 52 2 v n xs)
    (news : List Value) (hx : a.eval x = .slice (some ⟨g, 0, none⟩) m c) (hl : news.length = m * 2) (hnews : ∀ j u, news[j]? = some u → w.cell? ((⟨g, 0, none⟩ : Addr).add j) = some u) (h1 : ∀ u ∈ news, u.oneCell' = true) (hm : 0 < m) (h63 : n + m ≤ maxLen) (hbytes : (n + m) * 24 ≤ 140737488355328) (hbase : B ≤ w.heap.size)
    (h : ∀ v' w' xs', w'.ownsRow B 52 2 v' (n + m) xs' → Rowed B w w' → wpList Tryz.prog ops Q rest (a.put o.dst v') w') : wpList Tryz.prog ops Q (o :: rest) a w :=
  wpList_plain hgd fun _ hK => by
    obtain ⟨v', w', xs', hr, h2, h3⟩ := run_append_rowed (c := c) o.type hown news hl hnews h1 hm h63 hbytes hbase
    unfold Oper.wp execOp
    simp only [ho, resolve, invoke, builtin, Sem.run_bind, Sem.run_pure, Result.andThen_ok, List.map_toArray, List.map_cons, List.map_nil, hs, hx, hr]
    exact hK _ _ (h v' w' xs' h2 h3)
/-- rows that can still be written over and grow, from the hunk i on -/
def RowsI (w : World) (B n i : Nat) (cur : Array Value) : Prop := ∀ j, i ≤ j → j < n → ∃ v m xs, cur[j * 6 + 5]? = some v ∧ m < 5864062014800 ∧ w.ownsRow B 52 2 v m xs
def HunkI (w : World) (B : Nat) (a : Option Addr) (n i : Nat) : Prop := 0 < n → ∃ g cur, a = some ⟨g, 0, none⟩ ∧ w.heap[g]? = some (.cells cur 37) ∧ B ≤ g ∧ n * 6 ≤ cur.size ∧ RowsI w B n i cur
theorem RowsI.rowed {w w' : World} {B n i : Nat} {cur : Array Value} (h : RowsI w B n i cur) (hr : Rowed B w w') : RowsI w' B n i cur := fun j h1 h2 => by
  obtain ⟨v, m, xs, e1, e2, e3⟩ := h j h1 h2
  obtain ⟨xs', e4⟩ := hr.own e3
  exact ⟨v, m, xs', e1, e2, e4⟩
theorem RowsI.next {w : World} {B n i g : Nat} {cur : Array Value} {u : Value} (h : RowsI w B n i cur) (hg : w.heap[g]? = some (.cells cur 37)) : RowsI (w.setCell ⟨g, i * 6 + 5, none⟩ u) B n (i + 1) (cur.setIfInBounds (i * 6 + 5) u) := fun j h1 h2 => by
  obtain ⟨v, m, xs, e1, e2, e3⟩ := h j (by omega) h2
  refine ⟨v, m, xs, by rw [Array.getElem?_setIfInBounds_ne (by omega)]; exact e1, e2, ?_⟩
  refine own_far e3 fun q hq => Below.heap_setCell _ _ _ _ (fun e => ?_)
  have e' : q = g := e
  subst e'
  exact own_ne e3 hg (by decide) hq
theorem OwnH.hunkI {w : World} {B n c : Nat} {a : Option Addr} {l : List Hk} (h : OwnH w B (.slice a n c) l) (hn' : n = l.length) (hz : ∀ x ∈ l, x.rows.length < 5864062014800) : HunkI w B a n 0 := by
  intro hn
  obtain ⟨p, h1, h2, h3⟩ := h
  rw [← hn'] at h2
  obtain ⟨g1, ⟨hv, hv2⟩ | ⟨g, cap, cur, hv, hB, hh, hc, hm, hsz, htk⟩⟩ := h2
  · omega
  · simp only [Value.slice.injEq] at hv
    obtain ⟨rfl, _, rfl⟩ := hv
    refine ⟨g, cur, rfl, hh, hB, by rw [hsz]; exact Nat.mul_le_mul_right 6 hc, fun i _ hi => ?_⟩
    have hpl : p.length = l.length := by rw [← h1, List.length_map]
    obtain ⟨q, hq⟩ : ∃ q, p[i]? = some q := ⟨_, List.getElem?_eq_getElem (by omega)⟩
    have hcell : cur[i * 6 + 5]? = some q.2 := by
      have h5 := hksC_get hq 5 (by omega)
      rw [← htk, List.getElem?_take, if_pos (by omega), Array.getElem?_toList] at h5
      exact h5
    exact ⟨q.2, _, _, hcell, hz q.1 (by rw [← h1]; exact List.mem_map.2 ⟨q, List.mem_of_getElem? hq, rfl⟩), h3 q (List.mem_of_getElem? hq)⟩
theorem HunkI.stays {w w' : World} {B n i : Nat} {a : Option Addr} (h : HunkI w B a n i) (hb : Below w.heap.size w w') : HunkI w' B a n i := by
  intro hn
  obtain ⟨g, cur, ha, h1, h2, h3, h4⟩ := h hn
  exact ⟨g, cur, ha, (hb.block g (lt_of_heap h1)).trans h1, h2, h3, h4.rowed (.of hb)⟩
theorem cell_in {w : World} {g o : Nat} {cs : Array Value} {t : TypeId} (h : w.heap[g]? = some (.cells cs t)) (ho : o < cs.size) : w.cell? ⟨g, o, none⟩ = some cs[o] := by
  rw [cell_of_blk h, Array.getElem?_eq_getElem ho]
end Go.Proofs.YtobocdbehjcpjaaGreatDoor
