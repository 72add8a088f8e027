/-
  The program's Columns and Print (layer 15). (Made by wip/gensl.py.)
-/
import Derived.Test.YtjgjfnmljmmplaaDoorSk
import Derived.Test.YtjgjfnmljmmplaaDoorGrS6
import Derived.Test.YtjgjfnmljmmplaaDoorXValid
import Derived.Test.YtjgjfnmljmmplaaDoorGrD6
namespace Go.Proofs.YtjgjfnmljmmplaaDoor
namespace Sy
open Go.RowKit
open Ed (Ch)

/-- how wide a half is, where the second one begins, the error -/
def colH (wd : Int) : Nat := if 7 ≤ wd ∧ wd ≤ 4096 then ((wd - 3) / 2).toNat else 0
def colS (wd : Int) : Nat := if 7 ≤ wd ∧ wd ≤ 4096 then ((wd - 3) / 2).toNat + 3 else 0
def colE (wd : Int) : Nat := if 7 ≤ wd ∧ wd ≤ 4096 then 0 else 1
theorem colH_le (wd : Int) : colH wd ≤ 4096 := by unfold colH; split <;> omega
set_option maxHeartbeats 2000000 in
theorem cols_any (wd : Int) (w : World) : Calls Tryd.prog 8 #[.int .i64 wd] w fun e w' => e = .returned (.tuple #[.int .i64 (colH wd : Nat), .int .i64 (colS wd : Nat), errV (colE wd)]) ∧ Below w.heap.size w w' := by
  unfold colH colS colE
  by_cases h1 : wd < 7
  · rw [if_neg (by omega), if_neg (by omega), if_neg (by omega)]
    go_enter Tryd.func8, Tryd.ntmps8
    go_wp2
    go_ret3
    exact ⟨rfl, Below.refl _ _⟩
  · by_cases h2 : 4096 < wd
    · rw [if_neg (by omega), if_neg (by omega), if_neg (by omega)]
      go_enter Tryd.func8, Tryd.ntmps8
      go_wp2
      go_ret3
      exact ⟨rfl, Below.refl _ _⟩
    · rw [if_pos (by omega), if_pos (by omega), if_pos (by omega)]
      obtain ⟨H, hH⟩ : ∃ H, H = ((wd - 3) / 2).toNat := ⟨_, rfl⟩
      have q1 : IntKind.i64.wrap (wd - 3) = wd - 3 := wrapB (by omega) (by omega)
      have q2 : (wd - 3).tdiv 2 = (H : Int) := by rw [Int.tdiv_eq_ediv_of_nonneg (by omega)]; omega
      have q3 : IntKind.i64.wrap (H : Int) = (H : Int) := wrapB (by omega) (by omega)
      have q4 : IntKind.i64.wrap ((H : Int) + 3) = ((H + 3 : Nat) : Int) := by rw [wrapB (by omega) (by omega)]; omega
      rw [← hH]
      clear hH
      go_enter Tryd.func8, Tryd.ntmps8
      go_wp2
      go_ret3
      exact ⟨rfl, Below.refl _ _⟩
/-- both texts beside each other, from two places on -/
def prT (half sec : Nat) (A M : List ByteArray) : List Ch → Nat → Nat → Sd.Bs
  | [], i, k => Sd.bes half sec ((A.drop i).map dat) ((M.drop k).map dat)
  | c :: r, i, k => Sd.bes half sec ((part A i c.a.toNat).map dat) ((part M k c.b.toNat).map dat) ++ (Sd.chg half sec ((part A c.a.toNat (c.a + c.n).toNat).map dat) ((part M c.b.toNat (c.b + c.m).toNat).map dat) ++ prT half sec A M r (c.a + c.n).toNat (c.b + c.m).toNat)
theorem prT_at {half sec : Nat} {A M : List ByteArray} {S : List Ch} {k i j : Nat} {c : Ch} (h : S[k]? = some c) : prT half sec A M (S.drop k) i j = Sd.bes half sec ((part A i c.a.toNat).map dat) ((part M j c.b.toNat).map dat) ++ (Sd.chg half sec ((part A c.a.toNat (c.a + c.n).toNat).map dat) ((part M c.b.toNat (c.b + c.m).toNat).map dat) ++ prT half sec A M (S.drop (k + 1)) (c.a + c.n).toNat (c.b + c.m).toNat) := by
  obtain ⟨hi, he⟩ := List.getElem?_eq_some_iff.1 h
  rw [List.drop_eq_getElem_cons hi, he]
  rfl
theorem chg_len (half sec : Nat) (hh : half ≤ 4096) : ∀ (L M : List Sd.Bs), (Sd.chg half sec L M).length ≤ 8196 * (L.length + M.length)
  | [], M => by
    have := news_len half sec hh M
    cases M with
    | nil => simp [Sd.chg, Sd.news]
    | cons y M => show (Sd.news half sec (y :: M)).length ≤ _; omega
  | x :: L, [] => by
    have := olds_len half sec hh (x :: L)
    show (Sd.olds half sec (x :: L)).length ≤ _
    omega
  | x :: L, y :: M => by
    have h1 := chg_len half sec hh L M
    have h2 := Sd.rowT_len half sec x (Sd.mkT x y) y
    simp only [Sd.chg, List.length_append, List.length_cons]
    omega
theorem valid_rd {w : World} {v : Value} {A : List ByteArray} (h : RdT w v A) (hl : A.length ≤ 140737488355328) (hx : ∀ x ∈ A, x.size ≤ 1099511627776) :
    Calls Tryd.prog 18 #[v] w fun e w' => e = .returned (.bool (Pl.valid (Cx.DL A))) ∧ w' = w := by
  rcases h with ⟨h0, a, c, rfl⟩ | ⟨b, o, c, rfl, _, _, hX⟩
  · rw [List.length_eq_zero_iff.1 h0]
    exact Cx.valid_none a c w
  · exact Cx.valid_any b o c A w (fun j x hj => hX j _ (stC_get hj)) hl (fun x hxx => Nat.le_trans (hx x hxx) (by decide))
section
variable {G b half sec n m ca cb da xa db xb : Nat} {aa ab A1 A2 : Option Addr} {A M : List ByteArray} {l1 : Sd.Bs} {w w' : World}
theorem rdT_part (hA : ∀ w', Below w.heap.size w w' → RdT w' (.slice aa n ca) A) (hn : n = A.length) (h1 : (if ca = da then aa else aa.map (·.add da)) = A1) (hx : da ≤ xa) (hxn : xa ≤ n) (hb : Below w.heap.size w w') : RdT w' (.slice A1 (xa - da) (ca - da)) (part A da xa) := by
  have h9 := hA w' hb
  rw [hn] at h9
  have := rdT_sliced h9 hx (by omega)
  rw [h1] at this
  exact this
theorem besP (hh : half ≤ 4096) (hA : ∀ w', Below w.heap.size w w' → RdT w' (.slice aa n ca) A) (hM : ∀ w', Below w.heap.size w w' → RdT w' (.slice ab m cb) M) (hn : n = A.length) (hm : m = M.length) (hxA : ∀ x ∈ A, x.size ≤ 1099511627776) (hxM : ∀ x ∈ M, x.size ≤ 1099511627776) (hGw : w.heap.size ≤ G)
    (hp : Pg G b half sec l1 w') (hb : Below w.heap.size w w') (hG : G ≤ w'.heap.size) (h1 : (if ca = da then aa else aa.map (·.add da)) = A1) (h2 : (if cb = db then ab else ab.map (·.add db)) = A2) (h3 : da ≤ xa) (h4 : xa ≤ n) (h5 : db ≤ xb) (h6 : xb ≤ m) (h7 : xb - db = xa - da) (hl : l1.length + 8196 * (xa - da) ≤ 100000000000000) :
    Calls Tryd.prog 20 #[.pointer (some ⟨b, 0, none⟩), .slice A1 (xa - da) (ca - da), .slice A2 (xb - db) (cb - db)] w' fun e w'' => e = .returned (.tuple #[]) ∧ Pg G b half sec (l1 ++ Sd.bes half sec ((part A da xa).map dat) ((part M db xb).map dat)) w'' ∧ Bx.Fr G b w' w'' :=
  beside_any hh hp hG (fun w2 hw => rdT_part hA hn h1 h3 h4 (hb.trans (hw.mono hGw))) (fun w2 hw => rdT_part hM hm h2 h5 h6 (hb.trans (hw.mono hGw))) (by rw [part_len (by omega), part_len (by omega)]; exact h7)
    (fun x hx => hxA x (List.mem_of_mem_drop (List.mem_of_mem_take hx))) (fun x hx => hxM x (List.mem_of_mem_drop (List.mem_of_mem_take hx))) (by rw [part_len (by omega)]; exact hl)
theorem chgP (hh : half ≤ 4096) (hA : ∀ w', Below w.heap.size w w' → RdT w' (.slice aa n ca) A) (hM : ∀ w', Below w.heap.size w w' → RdT w' (.slice ab m cb) M) (hn : n = A.length) (hm : m = M.length) (hxA : ∀ x ∈ A, x.size ≤ 1099511627776) (hxM : ∀ x ∈ M, x.size ≤ 1099511627776) (hGw : w.heap.size ≤ G)
    (hp : Pg G b half sec l1 w') (hb : Below w.heap.size w w') (hG : G ≤ w'.heap.size) (h1 : (if ca = da then aa else aa.map (·.add da)) = A1) (h2 : (if cb = db then ab else ab.map (·.add db)) = A2) (h3 : da ≤ xa) (h4 : xa ≤ n) (h5 : db ≤ xb) (h6 : xb ≤ m) (hl : l1.length + 8196 * ((xa - da) + (xb - db)) ≤ 100000000000000) :
    Calls Tryd.prog 21 #[.pointer (some ⟨b, 0, none⟩), .slice A1 (xa - da) (ca - da), .slice A2 (xb - db) (cb - db)] w' fun e w'' => e = .returned (.tuple #[]) ∧ Pg G b half sec (l1 ++ Sd.chg half sec ((part A da xa).map dat) ((part M db xb).map dat)) w'' ∧ Bx.Fr G b w' w'' :=
  change_any hh hp hG (fun w2 hw => rdT_part hA hn h1 h3 h4 (hb.trans (hw.mono hGw))) (fun w2 hw => rdT_part hM hm h2 h5 h6 (hb.trans (hw.mono hGw)))
    (fun x hx => hxA x (List.mem_of_mem_drop (List.mem_of_mem_take hx))) (fun x hx => hxM x (List.mem_of_mem_drop (List.mem_of_mem_take hx))) (by rw [part_len (by omega), part_len (by omega)]; exact hl)
end
set_option maxHeartbeats 16000000 in
set_option maxRecDepth 100000 in
theorem print_ok {vs va vb : Value} {s : List Ch} {A M : List ByteArray} {w : World} {wd : Int} (hs : RdC w vs s) (hwf : ∀ c ∈ s, WfC c) (hV : Ed.Val s A.length M.length) (ha : RdT w va A) (hb : RdT w vb M) (hxa : ∀ x ∈ A, x.size ≤ 1099511627776) (hxm : ∀ x ∈ M, x.size ≤ 1099511627776) (hvA : Pl.valid (Cx.DL A) = true) (hvM : Pl.valid (Cx.DL M) = true) (hc0 : colE wd = 0) :
    Calls Tryd.prog 6 #[vs, va, vb, .int .i64 wd] w fun e w' => e = .returned (.tuple #[.string (bB (prT (colH wd) (colS wd) A M (Ed.normal s A.length M.length) 0 0)), .nilIface]) ∧ Below w.heap.size w w' := by
  have HN := hid (fun w1 (h1 : Below w.heap.size w w1) => normal_any (hs.below h1) hwf hV)
  have HVA := hid (fun w1 (h1 : Below w.heap.size w w1) => valid_rd (ha.below h1) (by have := Ed.cnt_iff.1 hV.1; omega) hxa)
  have HVM := hid (fun w1 (h1 : Below w.heap.size w w1) => valid_rd (hb.below h1) (by have := Ed.cnt_iff.1 hV.2.1; omega) hxm)
  rw [hvA] at HVA
  rw [hvM] at HVM
  have HCL := hid (fun w1 => cols_any wd w1)
  rw [hc0, show errV 0 = .nilIface from rfl] at HCL
  have hch := colH_le wd
  have HNP := hid (fun w1 => newPage_any (colH wd) (colS wd) w1 hch)
  generalize colH wd = half at HCL hch HNP ⊢
  generalize colS wd = sec at HCL HNP ⊢
  have hNV := (Ed.normal_Val hV).1
  have hnl := Val_len hNV
  have hla := Ed.cnt_iff.1 hV.1
  have hlb := Ed.cnt_iff.1 hV.2.1
  have HV := hid hNV.2.2
  obtain ⟨s0, c0, rfl⟩ := hs.shape
  obtain ⟨aa, ca, rfl⟩ := ha.shape
  obtain ⟨ab, cb, rfl⟩ := hb.shape
  have hca := rd_cap ha
  have hcb := rd_cap hb
  generalize Ed.normal s A.length M.length = S at HN HV hnl ⊢
  obtain ⟨T, hTT⟩ : ∃ T, T = prT half sec A M S 0 0 := ⟨_, rfl⟩
  rw [← hTT]
  have HTT := hid hTT
  obtain ⟨n, hn⟩ : ∃ n, n = A.length := ⟨_, rfl⟩
  obtain ⟨m, hm⟩ : ∃ m, m = M.length := ⟨_, rfl⟩
  have HNn := hid hn
  have HMm := hid hm
  have HA2 : Hid (∀ w', Below w.heap.size w w' → RdT w' (.slice aa n ca) A) := hid (by rw [hn]; exact fun w' h => RdX.below ha h)
  have HM2 : Hid (∀ w', Below w.heap.size w w' → RdT w' (.slice ab m cb) M) := hid (by rw [hm]; exact fun w' h => RdX.below hb h)
  have HXA := hid hxa
  have HXM := hid hxm
  rw [← hn] at HN HV HVA hla hca ⊢
  rw [← hm] at HN HV HVM hlb hcb ⊢
  clear hs hwf hV ha hb hNV hTT hn hm hxa hxm hvA hvM hc0
  go_enter Tryd.func6, Tryd.ntmps6
  go_wp2_with fail
  refine (HCL.out w).mono ?_
  rintro e w1 ⟨rfl, hb1⟩
  have HB1 := hid hb1
  clear hb1 HCL
  go_wp2_with fail
  refine (HN.out w1 HB1.out).mono ?_
  rintro e w2 ⟨v2, rfl, hO, hb2⟩
  obtain ⟨a1, c1, rfl⟩ := own_shape hO
  have HB2 := hid (HB1.out.trans (hb2.mono HB1.out.size))
  obtain ⟨N, hN⟩ : ∃ N, N = S.length := ⟨_, rfl⟩
  have HNS := hid hN
  rw [← hN] at hnl ⊢
  have HRD : Hid (∀ w', Below w2.heap.size w2 w' → RdC w' (.slice a1 N c1) S) := hid (by rw [hN]; exact fun w' h => (own_rd hO).below h)
  clear hO hb2 HN hN HB1
  go_wp2_with fail
  refine (HVA.out w2 HB2.out).mono ?_
  rintro e w3 ⟨rfl, rfl⟩
  go_wp2_with fail
  refine (HVM.out w3 HB2.out).mono ?_
  rintro e w4 ⟨rfl, rfl⟩
  clear HVA HVM
  go_wp2_with fail
  refine (HNP.out w4).mono ?_
  rintro e w5 ⟨b, rfl, hbb, hp5, hb5⟩
  obtain ⟨G, hG⟩ : ∃ G, G = w4.heap.size := ⟨_, rfl⟩
  rw [← hG] at hbb hp5 hb5 HRD
  have HGw : Hid (w.heap.size ≤ G) := hid (by rw [hG]; exact HB2.out.size)
  have HP5 := hid hp5
  have HB5 := hid hb5
  have HGz5 : Hid (G ≤ w5.heap.size) := hid (by have := hp5.lt; omega)
  have HBW4 := HB2
  clear hb5 hp5 HNP hG HB2
  go_wp2_with fail
  go_loopw [15, 16, 54] (fun ad bd i wr => ∃ (k da db : Nat), k ≤ N ∧ i = .int .i64 k ∧ ad = .int .i64 da ∧ bd = .int .i64 db ∧ da ≤ n ∧ db ≤ m ∧ Hid (Ed.val (S.drop k) da db n m = true) ∧ Hid (∃ l, Pg G b half sec l wr ∧ l.length ≤ 8196 * (da + db) ∧ T = l ++ prT half sec A M (S.drop k) da db) ∧ Hid (Below G w4 wr) ∧ Hid (G ≤ wr.heap.size)) (fun _ _ i _ => N - (intOf i).toNat)
  case atStart => exact ⟨0, 0, 0, Nat.zero_le _, rfl, rfl, rfl, Nat.zero_le _, Nat.zero_le _, hid HV.out, hid ⟨[], HP5.out, Nat.zero_le _, HTT.out⟩, HB5, HGz5⟩
  case round =>
    obtain ⟨k, da, db, hk, rfl, rfl, rfl, hda, hdb, HVK, HL, HBG, HGz⟩ := hrel
    clear HP5 HB5 HGz5
    have HBW0 : Hid (Below w.heap.size w wr) := hid (HBW4.out.trans (HBG.out.mono HGw.out))
    obtain ⟨l, hl, hll, hTl⟩ := HL.out
    by_cases hlt : k < N
    · obtain ⟨x, hx⟩ : ∃ x, S[k]? = some x := ⟨_, List.getElem?_eq_getElem (by have := HNS.out; omega)⟩
      obtain ⟨⟨⟨o1, o2, o3⟩, ⟨o4, o5, o6⟩, _, o7⟩, hv2⟩ := val_at HVK.out hx
      rw [prT_at hx] at hTl
      obtain ⟨b0, o0, rfl, hblt, d0, d1, d2, d3⟩ := rdC_at (HRD.out wr HBG.out) hx
      obtain ⟨ca', cn', cb', cm'⟩ := x
      dsimp only at o1 o2 o3 o4 o5 o6 o7 hv2 hTl d0 d1 d2 d3
      obtain ⟨xa, rfl⟩ : ∃ xa : Nat, ca' = xa := ⟨ca'.toNat, by omega⟩
      obtain ⟨xn, rfl⟩ : ∃ xn : Nat, cn' = xn := ⟨cn'.toNat, by omega⟩
      obtain ⟨xb, rfl⟩ : ∃ xb : Nat, cb' = xb := ⟨cb'.toNat, by omega⟩
      obtain ⟨xm, rfl⟩ : ∃ xm : Nat, cm' = xm := ⟨cm'.toNat, by omega⟩
      obtain ⟨ya, hya⟩ : ∃ ya, ya = xa + xn := ⟨_, rfl⟩
      obtain ⟨yb, hyb⟩ : ∃ yb, yb = xb + xm := ⟨_, rfl⟩
      rw [Int.toNat_natCast, Int.toNat_natCast, show ((xa : Int) + (xn : Int)).toNat = ya by omega, show ((xb : Int) + (xm : Int)).toNat = yb by omega] at hTl
      have HV2 : Hid (Ed.val (S.drop (k + 1)) ya yb n m = true) := hid (by rw [hya, hyb]; push_cast; exact hv2)
      have g1 : da ≤ xa := by omega
      have g2 : xa ≤ ya := by omega
      have g3 : ya ≤ n := by omega
      have g4 : db ≤ xb := by omega
      have g5 : xb ≤ yb := by omega
      have g6 : yb ≤ m := by omega
      have g7 : Hid (xb - db = xa - da) := hid (by omega)
      have iw1 : IntKind.i64.wrap ((xa : Int) + (xn : Int)) = (ya : Int) := by rw [IntKind.wrap_i64]; omega
      have iw2 : IntKind.i64.wrap ((xb : Int) + (xm : Int)) = (yb : Int) := by rw [IntKind.wrap_i64]; omega
      have i1 : (0 : Int) ≤ (k : Int) := by omega
      have i2 : (k : Int) < (N : Int) := by omega
      have i3 : IntKind.i64.wrap ((k : Int) + 1) = (k : Int) + 1 := by rw [IntKind.wrap_i64]; omega
      obtain ⟨A1, hA1⟩ : ∃ A1, (if ca = da then aa else aa.map (·.add da)) = A1 := ⟨_, rfl⟩
      obtain ⟨A2, hA2⟩ : ∃ A2, (if cb = db then ab else ab.map (·.add db)) = A2 := ⟨_, rfl⟩
      obtain ⟨A3, hA3⟩ : ∃ A3, (if ca = xa then aa else aa.map (·.add xa)) = A3 := ⟨_, rfl⟩
      obtain ⟨A4, hA4⟩ : ∃ A4, (if cb = xb then ab else ab.map (·.add xb)) = A4 := ⟨_, rfl⟩
      have HC1 := hid (fun (w' : World) (h1 : Pg G b half sec l w') (h2 : Below w.heap.size w w') (h3 : G ≤ w'.heap.size) => besP hch HA2.out HM2.out HNn.out HMm.out HXA.out HXM.out HGw.out h1 h2 h3 hA1 hA2 g1 (Nat.le_trans g2 g3) g4 (Nat.le_trans g5 g6) g7.out (by omega))
      obtain ⟨Q1, hQ1⟩ : ∃ Q1, Q1 = Sd.bes half sec ((part A da xa).map dat) ((part M db xb).map dat) := ⟨_, rfl⟩
      have g77 := g7.out
      have hq1 := bes_len half sec hch ((part A da xa).map dat) ((part M db xb).map dat)
      rw [← hQ1, List.length_map, part_len (by have := HNn.out; omega)] at hq1
      have HC2 := hid (fun (w' : World) (h1 : Pg G b half sec (l ++ Q1) w') (h2 : Below w.heap.size w w') (h3 : G ≤ w'.heap.size) => chgP hch HA2.out HM2.out HNn.out HMm.out HXA.out HXM.out HGw.out h1 h2 h3 hA3 hA4 g2 g3 g5 g6 (by rw [List.length_append]; omega))
      obtain ⟨Q2, hQ2⟩ : ∃ Q2, Q2 = Sd.chg half sec ((part A xa ya).map dat) ((part M xb yb).map dat) := ⟨_, rfl⟩
      have hq2 := chg_len half sec hch ((part A xa ya).map dat) ((part M xb yb).map dat)
      rw [← hQ2, List.length_map, List.length_map, part_len (by have := HNn.out; omega), part_len (by have := HMm.out; omega)] at hq2
      rw [← hQ1] at HC1 hTl
      rw [← hQ2] at HC2 hTl
      have HTL : Hid (T = (l ++ Q1 ++ Q2) ++ prT half sec A M (S.drop (k + 1)) ya yb) := hid (by rw [hTl]; simp)
      have HLL : Hid ((l ++ Q1 ++ Q2).length ≤ 8196 * (ya + yb)) := hid (by rw [List.length_append, List.length_append]; omega)
      have hbN := (Below.refl wr.heap.size wr).alloc (Nat.le_refl _) (.cells #[.int .i64 (xa : Int), .int .i64 (xn : Int), .int .i64 (xb : Int), .int .i64 (xm : Int)] 45)
      have HN7 := hid (heap_alloc_new wr (.cells #[.int .i64 (xa : Int), .int .i64 (xn : Int), .int .i64 (xb : Int), .int .i64 (xm : Int)] 45))
      have HL7 := hid (hl.below hbN)
      have HZ7 : Hid (G ≤ (wr.alloc (.cells #[.int .i64 (xa : Int), .int .i64 (xn : Int), .int .i64 (xb : Int), .int .i64 (xm : Int)] 45)).heap.size) := hid (Nat.le_trans HGz.out hbN.size)
      have HG7 := hid (HBG.out.trans (hbN.mono HGz.out))
      have HB7 := hid (HBW0.out.trans (hbN.mono HBW0.out.size))
      have HVb : Hid (wr.heap.size ≠ b) := hid (by have := hl.lt.1; omega)
      clear g77 hTl hl hll hv2 hx HVK HL hya hyb hbN o1 o2 o3 o4 o5 o6 o7 hQ1 hQ2 hq1 hq2
      go_wp2_with fail
      obtain ⟨V, hV⟩ : ∃ V, V = wr.heap.size := ⟨_, rfl⟩
      rw [← hV] at HN7 HVb ⊢
      generalize wr.alloc (.cells #[.int .i64 (xa : Int), .int .i64 (xn : Int), .int .i64 (xb : Int), .int .i64 (xm : Int)] 45) = w7 at HN7 HL7 HZ7 HG7 HB7 ⊢
      clear hV d0 d1 d2 d3
      have k0 : w7.cell? ⟨V, 0, none⟩ = some (.int .i64 (xa : Int)) := cell_of_blk HN7.out 0
      have k2 : w7.cell? ⟨V, 2, none⟩ = some (.int .i64 (xb : Int)) := cell_of_blk HN7.out 2
      refine wp_region_qtailY 11 (by kernel_rfl) (by kernel_rfl) ?_
      simp only [List.take_succ_cons, List.take_zero, List.drop_succ_cons, List.drop_zero]
      repeat go_big_quiet_step (fail)
      refine wpQuiet_nil ?_
      replace HL7 := hid (HL7.out.below (below_drewN (Below.refl w7.heap.size w7) 1))
      replace HN7 : Hid ((w7.drewN 1).heap[V]? = _) := HN7
      replace HG7 := hid (below_drewN HG7.out 1)
      replace HB7 := hid (below_drewN HB7.out 1)
      replace HZ7 : Hid (G ≤ (w7.drewN 1).heap.size) := HZ7
      clear k0 k2
      generalize w7.drewN 1 = wd7 at HN7 HL7 HZ7 HG7 HB7 ⊢
      go_wp2_with fail
      refine (HC1.out wd7 HL7.out HB7.out HZ7.out).mono ?_
      rintro e w8 ⟨rfl, hp8, hf8⟩
      have HL8 := hid hp8
      have HN8 := hid (hf8.box HN7.out HVb.out (by decide))
      have HG8 := hid (HG7.out.trans hf8.below)
      have HB8 := hid (HB7.out.trans (hf8.below.mono HGw.out))
      have HZ8 := hid (Nat.le_trans HZ7.out hf8.below.size)
      clear hp8 hf8 HC1 HN7 HL7 HZ7 HG7 HB7
      have k0 : w8.cell? ⟨V, 0, none⟩ = some (.int .i64 (xa : Int)) := cell_of_blk HN8.out 0
      have k1 : w8.cell? ⟨V, 1, none⟩ = some (.int .i64 (xn : Int)) := cell_of_blk HN8.out 1
      have k2 : w8.cell? ⟨V, 2, none⟩ = some (.int .i64 (xb : Int)) := cell_of_blk HN8.out 2
      have k3 : w8.cell? ⟨V, 3, none⟩ = some (.int .i64 (xm : Int)) := cell_of_blk HN8.out 3
      go_wp2_with fail
      go_quiet (fail)
      replace HL8 := hid (HL8.out.below (below_drewN (Below.refl w8.heap.size w8) nq))
      replace HN8 : Hid ((w8.drewN nq).heap[V]? = _) := HN8
      replace HG8 := hid (below_drewN HG8.out nq)
      replace HB8 := hid (below_drewN HB8.out nq)
      replace HZ8 : Hid (G ≤ (w8.drewN nq).heap.size) := HZ8
      clear k0 k1 k2 k3
      generalize w8.drewN nq = w9 at HN8 HL8 HZ8 HG8 HB8 ⊢
      have HN9 := HN8
      have k0 : w9.cell? ⟨V, 0, none⟩ = some (.int .i64 (xa : Int)) := cell_of_blk HN9.out 0
      have k2 : w9.cell? ⟨V, 2, none⟩ = some (.int .i64 (xb : Int)) := cell_of_blk HN9.out 2
      go_wp2_with fail
      refine wp_region_qtailY 11 (by kernel_rfl) (by kernel_rfl) ?_
      simp only [List.take_succ_cons, List.take_zero, List.drop_succ_cons, List.drop_zero]
      repeat go_big_quiet_step (fail)
      refine wpQuiet_nil ?_
      replace HL8 := hid (HL8.out.below (below_drewN (Below.refl w9.heap.size w9) 1))
      replace HG8 := hid (below_drewN HG8.out 1)
      replace HB8 := hid (below_drewN HB8.out 1)
      replace HZ8 : Hid (G ≤ (w9.drewN 1).heap.size) := HZ8
      clear k0 k2 HN8 HN9
      generalize w9.drewN 1 = wda at HL8 HZ8 HG8 HB8 ⊢
      go_wp2_with fail
      refine (HC2.out wda HL8.out HB8.out HZ8.out).mono ?_
      rintro e wb ⟨rfl, hpb, hfb⟩
      have HLb : Hid (∃ l, Pg G b half sec l wb ∧ l.length ≤ 8196 * (ya + yb) ∧ T = l ++ prT half sec A M (S.drop (k + 1)) ya yb) := hid ⟨_, hpb, HLL.out, HTL.out⟩
      have HGb := hid (HG8.out.trans hfb.below)
      have HZb := hid (Nat.le_trans HZ8.out hfb.below.size)
      clear hpb hfb HC2 HL8 HZ8 HG8 HB8
      go_wp2_with fail
      go_roundw
      case rel => exact ⟨k + 1, ya, yb, by omega, by go_num, rfl, rfl, g3, g6, HV2, HLb, HGb, HZb⟩
      case measure => simp [intOf]; omega
    · have hv9 := HVK.out
      rw [show S.drop k = [] from List.drop_eq_nil_of_le (by have := HNS.out; omega)] at hTl hv9
      have hnm : (n : Int) - da = m - db := by simpa [Ed.val] using hv9
      have g7 : Hid (m - db = n - da) := hid (by omega)
      obtain ⟨A1, hA1⟩ : ∃ A1, (if ca = da then aa else aa.map (·.add da)) = A1 := ⟨_, rfl⟩
      obtain ⟨A2, hA2⟩ : ∃ A2, (if cb = db then ab else ab.map (·.add db)) = A2 := ⟨_, rfl⟩
      have HC1 := hid (fun (w' : World) (h1 : Pg G b half sec l w') (h2 : Below w.heap.size w w') (h3 : G ≤ w'.heap.size) => besP hch HA2.out HM2.out HNn.out HMm.out HXA.out HXM.out HGw.out h1 h2 h3 hA1 hA2 hda (Nat.le_refl n) hdb (Nat.le_refl m) g7.out (by omega))
      have hTl2 : T = l ++ Sd.bes half sec ((part A da n).map dat) ((part M db m).map dat) := by
        rw [hTl, HNn.out, HMm.out]
        unfold prT part
        rw [List.take_of_length_le (by rw [List.length_drop]; exact Nat.le_refl _), List.take_of_length_le (by rw [List.length_drop]; exact Nat.le_refl _)]
      rw [← hTl2] at HC1
      have HLr := hid hl
      have i2 : ¬ ((k : Int) < (N : Int)) := by omega
      clear hTl hTl2 hl HL HVK hv9 hnm hll
      go_wp2_with fail
      refine wp_region_qtailY 7 (by kernel_rfl) (by kernel_rfl) ?_
      simp only [List.take_succ_cons, List.take_zero, List.drop_succ_cons, List.drop_zero]
      repeat go_big_quiet_step (fail)
      refine wpQuiet_nil ?_
      replace HLr := hid (HLr.out.below (below_drewN (Below.refl wr.heap.size wr) 1))
      have HBr := hid (below_drewN HBW0.out 1)
      have HZr : Hid (G ≤ (wr.drewN 1).heap.size) := HGz
      generalize wr.drewN 1 = wz at HLr HBr HZr ⊢
      go_wp2_with fail
      refine (HC1.out wz HLr.out HBr.out HZr.out).mono ?_
      rintro e w8 ⟨rfl, hp8, hf8⟩
      have HS := hid (Bx.str_any (by decide) hp8 (Nat.le_trans HZr.out hf8.below.size))
      have HB8 := hid (HBr.out.trans (hf8.below.mono HGw.out))
      clear hp8 hf8 HC1
      go_wp2_with fail
      refine HS.out.mono ?_
      rintro e w9 ⟨rfl, hb9, _⟩
      have HB9 := hid (HB8.out.trans (hb9.mono HGw.out))
      clear hb9 HS
      go_wp2_with fail
      go_ret2
      exact ⟨rfl, HB9.out⟩
end Sy
end Go.Proofs.YtjgjfnmljmmplaaDoor
