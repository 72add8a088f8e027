/-
  PROVED: the card of PathLimits: PathLimits, which takes nothing, returns true; the card ties what errors.errorType and the two tables of unicode/utf8 hold to the program's text (a pruned copy of the project: the packages that this law loads).
-/
import Derived.Test.YtmlgggnjghkojaaDoorSu
import Derived.Test.YtmlgggnjghkojaaDoorR1
import Derived.Test.YtmlgggnjghkojaaDoorHd
namespace Go.Proofs.YtmlgggnjghkojaaDoor.pathLimits
open Go.ChangeShapes Go.WideShapes Go.ChangeAt Go.RowKit

def nn (k : Nat) : List UInt8 := List.replicate k 110
def dd (k : Nat) : List UInt8 := Pp.glue (List.replicate k [100])
def ll (m : Nat) : List UInt8 := (List.replicate m (nn 200 ++ [47])).flatten
theorem nn_len (k : Nat) : (nn k).length = k := List.length_replicate
theorem nn_succ (k : Nat) : nn k ++ [110] = nn (k + 1) := List.replicate_succ'.symm
theorem dd_one : dd 0 ++ [100] = dd 1 := by decide
theorem dd_succ (k : Nat) (h : 0 < k) : (dd k ++ [47]) ++ [100] = dd (k + 1) := by
  unfold dd
  rw [List.replicate_succ', Pp.glue_snoc _ _ (by intro e; have := congrArg List.length e; simp at this; omega)]
  simp
theorem ll_succ (m : Nat) : (ll m ++ nn 200) ++ [47] = ll (m + 1) := by
  unfold ll
  rw [List.replicate_succ']
  simp
theorem ll_len (m : Nat) : (ll m).length = 201 * m := by
  induction m with
  | zero => rfl
  | succ m ih => rw [← ll_succ, List.length_append, List.length_append, ih, nn_len, List.length_singleton]; omega
theorem dd_len (k : Nat) : (dd k).length ≤ 2 * k := by
  induction k with
  | zero => simp [dd, Pp.glue]
  | succ k ih =>
    rcases Nat.eq_zero_or_pos k with rfl | h
    · decide
    · rw [← dd_succ k h]; simp; omega

theorem f_name : (Pp.parts (nn 255)).2 = 0 := by
  have h := Pp.parts_glue (l := [nn 255]) (by decide +kernel) (by decide) (by decide +kernel)
  have e : Pp.glue [nn 255] = nn 255 := by simp [Pp.glue, Pp.tails]
  rw [e] at h
  rw [h]
theorem no47 (k : Nat) : (47 : UInt8) ∉ nn k := by
  intro h
  have := List.eq_of_mem_replicate h
  exact absurd this (by decide)
theorem f_name1 : (Pp.parts (nn 256)).2 = 30 := by
  have hp := Pp.pieces_none (nn 256) (no47 256)
  have hn : Pp.namesN (Pp.pieces (nn 256)) = 30 := by rw [hp]; decide +kernel
  rw [parts_bad (by rw [nn_len]; omega) (by decide) (by rw [hn]; decide), hn]
theorem f_deep : (Pp.parts (dd 64)).2 = 0 := by
  have h := Pp.parts_glue (l := List.replicate 64 [100]) (by decide +kernel) (by decide) (by decide +kernel)
  exact congrArg Prod.snd h
theorem f_deep1 : (Pp.parts (dd 65)).2 = 2 := by
  have hp : Pp.pieces (dd 65) = List.replicate 65 [100] := Pp.pieces_glue _ (by decide) (fun x hx => by rw [List.eq_of_mem_replicate hx]; decide)
  rw [parts_deep (by have := dd_len 65; omega) (by decide +kernel) (by rw [hp]; decide +kernel) (by rw [hp]; decide)]
theorem glue_rows (m : Nat) (b : List UInt8) : Pp.glue (List.replicate m (nn 200) ++ [b]) = ll m ++ b := by
  induction m with
  | zero => simp [Pp.glue, Pp.tails, ll]
  | succ m ih =>
    rw [List.replicate_succ, List.cons_append]
    have e : Pp.glue (nn 200 :: (List.replicate m (nn 200) ++ [b])) = nn 200 ++ 47 :: Pp.glue (List.replicate m (nn 200) ++ [b]) := by
      cases m with
      | zero => exact Pp.glue_two _ _ _
      | succ m => exact Pp.glue_two _ _ _
    rw [e, ih]
    unfold ll
    rw [List.replicate_succ]
    simp
theorem f_long : (Pp.parts (ll 20 ++ nn 76)).2 = 0 := by
  have e := glue_rows 20 (nn 76)
  have h := Pp.parts_glue (l := List.replicate 20 (nn 200) ++ [nn 76]) (by decide +kernel) (by decide) (by rw [e, List.length_append, ll_len, nn_len]; omega)
  rw [e] at h
  rw [h]
theorem f_long1 : (Pp.parts ((ll 20 ++ nn 76) ++ [110])).2 = 2 := by
  rw [parts_long (by rw [List.length_append, List.length_append, ll_len, nn_len]; simp)]

theorem parts_at (g : ByteArray) (l : List UInt8) (n : Nat) (h : g.data.toList = l) (hp : (Pp.parts l).2 = n) (w : World) (hm : MaxVar w) :
    Calls Tryd.prog 14 #[.string g] w fun e w' => ∃ v, e = .returned (.tuple #[v, errV n]) ∧ Below w.heap.size w w' := by
  refine (parts_any g w hm).mono ?_
  rintro e w' ⟨v, rfl, _, hb⟩
  exact ⟨v, by rw [h, hp], hb⟩

def strLen' : Value → Nat
  | .string c => c.size
  | _ => 0
theorem cat110 (g : ByteArray) : (g ++ ⟨#[110]⟩).data.toList = g.data.toList ++ [110] := by rw [cat_data]
theorem cat100 (g : ByteArray) : (g ++ ⟨#[100]⟩).data.toList = g.data.toList ++ [100] := by rw [cat_data]
theorem cat47 (g : ByteArray) : (g ++ ⟨#[47]⟩).data.toList = g.data.toList ++ [47] := by rw [cat_data]
theorem cat4100 (g : ByteArray) : (g ++ ⟨#[47, 100]⟩).data.toList = (g.data.toList ++ [47]) ++ [100] := by rw [cat_data]; simp

theorem nn256 : nn 255 ++ [110] = nn 256 := nn_succ 255
theorem dd65 : (dd 64 ++ [47]) ++ [100] = dd 65 := dd_succ 64 (by omega)
theorem at1 (g : ByteArray) (h : g.data.toList = nn 255) (w : World) (hm : MaxVar w) : Calls Tryd.prog 14 #[.string g] w fun e w' => ∃ v, e = .returned (.tuple #[v, errV 0]) ∧ Below w.heap.size w w' := parts_at g _ 0 h f_name w hm
theorem at2 (g : ByteArray) (h : g.data.toList = nn 255) (w : World) (hm : MaxVar w) : Calls Tryd.prog 14 #[.string (g ++ ⟨#[110]⟩)] w fun e w' => ∃ v, e = .returned (.tuple #[v, errV 30]) ∧ Below w.heap.size w w' := parts_at _ _ 30 (by rw [cat110, h, nn256]) f_name1 w hm
theorem at3 (g : ByteArray) (h : g.data.toList = dd 64) (w : World) (hm : MaxVar w) : Calls Tryd.prog 14 #[.string g] w fun e w' => ∃ v, e = .returned (.tuple #[v, errV 0]) ∧ Below w.heap.size w w' := parts_at g _ 0 h f_deep w hm
theorem at4 (g : ByteArray) (h : g.data.toList = dd 64) (w : World) (hm : MaxVar w) : Calls Tryd.prog 14 #[.string (g ++ ⟨#[47, 100]⟩)] w fun e w' => ∃ v, e = .returned (.tuple #[v, errV 2]) ∧ Below w.heap.size w w' := parts_at _ _ 2 (by rw [cat4100, h, dd65]) f_deep1 w hm
theorem at5 (g : ByteArray) (h : g.data.toList = ll 20 ++ nn 76) (w : World) (hm : MaxVar w) : Calls Tryd.prog 14 #[.string g] w fun e w' => ∃ v, e = .returned (.tuple #[v, errV 0]) ∧ Below w.heap.size w w' := parts_at g _ 0 h f_long w hm
theorem at6 (g : ByteArray) (h : g.data.toList = ll 20 ++ nn 76) (w : World) (hm : MaxVar w) : Calls Tryd.prog 14 #[.string (g ++ ⟨#[110]⟩)] w fun e w' => ∃ v, e = .returned (.tuple #[v, errV 2]) ∧ Below w.heap.size w w' := parts_at _ _ 2 (by rw [cat110, h]) f_long1 w hm
theorem ext_nn (N : ByteArray) (h : N.data.toList = nn 255) (k : Nat) (hk : k ≤ 255) : N.extract 0 k = ⟨(nn k).toArray⟩ := by
  rw [ext_take', h]
  unfold nn
  rw [List.take_replicate, Nat.min_eq_left hk]

set_option maxHeartbeats 8000000 in
set_option maxRecDepth 100000 in
theorem walk (w : World) (hg : Rdy w) : Calls Tryd.prog 6 #[] w fun e w' => e = .returned (.bool true) ∧ Below w.heap.size w w' := by
  have HG := hid hg
  clear hg
  go_enter Tryd.func6, Tryd.ntmps6
  go_wp2
  go_loop [1, 2] (fun a i => ∃ (k : Nat) (g : ByteArray), k ≤ 255 ∧ a = .string g ∧ i = .int .i64 k ∧ g.size = k ∧ Hid (g.data.toList = nn k)) (fun _ i => 255 - (intOf i).toNat)
  case atStart => exact ⟨0, ⟨#[]⟩, by omega, rfl, rfl, rfl, (rfl : ([] : List UInt8) = nn 0)⟩
  case round =>
    obtain ⟨k, N, hk, rfl, rfl, hNs, HN⟩ := hrel
    by_cases hlt : k < 255
    · have HN2 : Hid ((N ++ ⟨#[110]⟩).data.toList = nn (k + 1)) := hid (by rw [cat110, HN.out, nn_succ])
      have hs2 : (N ++ ⟨#[110]⟩).size = k + 1 := by rw [cat_size, hNs]; rfl
      go_wp2
      go_round
      case rel => exact ⟨k + 1, _, by omega, rfl, by go_num, hs2, HN2⟩
      case measure => simp [intOf]; omega
    · obtain rfl : k = 255 := by omega
      clear hlt hk
      go_wp2
      go_loop [3, 4] (fun a i => ∃ (k : Nat) (g : ByteArray), k ≤ 64 ∧ a = .string g ∧ i = .int .i64 k ∧ g.size ≤ 128 ∧ Hid (g.data.toList = dd k)) (fun _ i => 64 - (intOf i).toNat)
      case atStart => exact ⟨0, ⟨#[]⟩, by omega, rfl, rfl, by decide, (rfl : ([] : List UInt8) = dd 0)⟩
      case round =>
        obtain ⟨k, D, hk, rfl, rfl, hDs, HD⟩ := hrel
        by_cases hlt : k < 64
        · by_cases h0 : 0 < k
          · have HD2 : Hid (((D ++ ⟨#[47]⟩) ++ ⟨#[100]⟩).data.toList = dd (k + 1)) := hid (by rw [cat100, cat47, HD.out, dd_succ k h0])
            have hs2 : ((D ++ ⟨#[47]⟩) ++ ⟨#[100]⟩).size ≤ 128 := by rw [← size_data, HD2.out]; have := dd_len (k + 1); omega
            go_wp2
            go_round
            case rel => exact ⟨k + 1, _, by omega, rfl, by go_num, hs2, HD2⟩
            case measure => simp [intOf]; omega
          · obtain rfl : k = 0 := by omega
            have HD2 : Hid ((D ++ ⟨#[100]⟩).data.toList = dd (0 + 1)) := hid (by rw [cat100, HD.out]; exact dd_one)
            have hs2 : (D ++ ⟨#[100]⟩).size ≤ 128 := by rw [← size_data, HD2.out]; have := dd_len (0 + 1); omega
            go_wp2
            go_round
            case rel => exact ⟨0 + 1, _, by omega, rfl, by go_num, hs2, HD2⟩
            case measure => simp [intOf]
        · obtain rfl : k = 64 := by omega
          clear hlt hk
          go_wp2
          go_loop [5] (fun a => ∃ (m : Nat) (g : ByteArray), m ≤ 20 ∧ a = .string g ∧ g.size = 201 * m ∧ Hid (g.data.toList = ll m)) (fun a => 4096 - strLen' a)
          case atStart => exact ⟨0, ⟨#[]⟩, by omega, rfl, rfl, (rfl : ([] : List UInt8) = ll 0)⟩
          case round =>
            obtain ⟨m, G, hm, rfl, hGs, HL⟩ := hrel
            by_cases hlt : m < 20
            · have he : N.extract 0 200 = ⟨(nn 200).toArray⟩ := ext_nn N HN.out 200 (by omega)
              have HL2 : Hid (((G ++ N.extract 0 200) ++ ⟨#[47]⟩).data.toList = ll (m + 1)) := hid (by rw [cat47, cat_data, HL.out, he]; exact ll_succ m)
              have hs2 : ((G ++ N.extract 0 200) ++ ⟨#[47]⟩).size = 201 * (m + 1) := by rw [← size_data, HL2.out, ll_len]
              have hes : (N.extract 0 200).size = 200 := by rw [he]; exact (size_mk _).trans (nn_len 200)
              clear he
              go_wp2
              go_round
              case rel => exact ⟨m + 1, _, by omega, rfl, hs2, HL2⟩
              case measure => show 4096 - ((G ++ N.extract 0 200) ++ ⟨#[47]⟩ : ByteArray).size < 4096 - G.size; omega
            · obtain rfl : m = 20 := by omega
              clear hlt hm
              have he : N.extract 0 76 = ⟨(nn 76).toArray⟩ := ext_nn N HN.out 76 (by omega)
              have hes : (N.extract 0 76).size = 76 := by rw [he]; exact (size_mk _).trans (nn_len 76)
              have HL2 : Hid ((G ++ N.extract 0 76).data.toList = ll 20 ++ nn 76) := hid (by rw [cat_data, HL.out, he])
              clear he
              obtain ⟨L, hL⟩ : ∃ L : ByteArray, G ++ N.extract 0 76 = L := ⟨_, rfl⟩
              have hLs : L.size = 4096 := by rw [← hL, cat_size, hGs, hes]
              rw [hL] at HL2
              have HP1 : Hid (∀ w, MaxVar w → Calls Tryd.prog 14 #[.string N] w fun e w' => ∃ v, e = .returned (.tuple #[v, errV 0]) ∧ Below w.heap.size w w') := hid (at1 N HN.out)
              have HP2 : Hid (∀ w, MaxVar w → Calls Tryd.prog 14 #[.string (N ++ ⟨#[110]⟩)] w fun e w' => ∃ v, e = .returned (.tuple #[v, errV 30]) ∧ Below w.heap.size w w') := hid (at2 N HN.out)
              have HP3 : Hid (∀ w, MaxVar w → Calls Tryd.prog 14 #[.string D] w fun e w' => ∃ v, e = .returned (.tuple #[v, errV 0]) ∧ Below w.heap.size w w') := hid (at3 D HD.out)
              have HP4 : Hid (∀ w, MaxVar w → Calls Tryd.prog 14 #[.string (D ++ ⟨#[47, 100]⟩)] w fun e w' => ∃ v, e = .returned (.tuple #[v, errV 2]) ∧ Below w.heap.size w w') := hid (at4 D HD.out)
              have HP5 : Hid (∀ w, MaxVar w → Calls Tryd.prog 14 #[.string L] w fun e w' => ∃ v, e = .returned (.tuple #[v, errV 0]) ∧ Below w.heap.size w w') := hid (at5 L HL2.out)
              have HP6 : Hid (∀ w, MaxVar w → Calls Tryd.prog 14 #[.string (L ++ ⟨#[110]⟩)] w fun e w' => ∃ v, e = .returned (.tuple #[v, errV 2]) ∧ Below w.heap.size w w') := hid (at6 L HL2.out)
              clear HN HD HL2 HL
              have hLe : (G ++ N.extract 0 76) = L := hL
              go_wp2_with fail
              refine (HP1.out _ HG.out.max).mono ?_
              rintro e w1 ⟨v1, rfl, hb1⟩
              have HG1 := hid (HG.out.below hb1)
              have HB1 := hid hb1
              clear HG  hb1
              rw [errV_zero]
              go_wp2_with fail
              refine (HP2.out _ HG1.out.max).mono ?_
              rintro e w2 ⟨v2, rfl, hb2⟩
              have HG2 := hid (HG1.out.below hb2)
              have HB2 := hid (HB1.out.trans (hb2.mono HB1.out.size))
              clear HG1 HB1 hb2
              go_wp2_with fail
              refine (HP3.out _ HG2.out.max).mono ?_
              rintro e w3 ⟨v3, rfl, hb3⟩
              have HG3 := hid (HG2.out.below hb3)
              have HB3 := hid (HB2.out.trans (hb3.mono HB2.out.size))
              clear HG2 HB2 hb3
              rw [errV_zero]
              go_wp2_with fail
              refine (HP4.out _ HG3.out.max).mono ?_
              rintro e w4 ⟨v4, rfl, hb4⟩
              have HG4 := hid (HG3.out.below hb4)
              have HB4 := hid (HB3.out.trans (hb4.mono HB3.out.size))
              clear HG3 HB3 hb4
              go_wp2_with fail
              refine (HP5.out _ HG4.out.max).mono ?_
              rintro e w5 ⟨v5, rfl, hb5⟩
              have HG5 := hid (HG4.out.below hb5)
              have HB5 := hid (HB4.out.trans (hb5.mono HB4.out.size))
              clear HG4 HB4 hb5
              rw [errV_zero]
              go_wp2_with fail
              refine (HP6.out _ HG5.out.max).mono ?_
              rintro e w6 ⟨v6, rfl, hb6⟩
              have HG6 := hid (HG5.out.below hb6)
              have HB6 := hid (HB5.out.trans (hb6.mono HB5.out.size))
              clear HG5 HB5 hb6
              go_wp2_with fail
              refine (num_errV 30 _ HG6.out.err).mono ?_
              rintro e w7 ⟨rfl, hb7⟩
              have HG7 := hid (HG6.out.below hb7)
              have HB7 := hid (HB6.out.trans (hb7.mono HB6.out.size))
              clear HG6 HB6 hb7
              go_wp2_with fail
              refine (num_errV 2 _ HG7.out.err).mono ?_
              rintro e w8 ⟨rfl, hb8⟩
              have HG8 := hid (HG7.out.below hb8)
              have HB8 := hid (HB7.out.trans (hb8.mono HB7.out.size))
              clear HG7 HB7 hb8
              go_wp2_with fail
              refine (num_errV 2 _ HG8.out.err).mono ?_
              rintro e w9 ⟨rfl, hb9⟩
              have HG9 := hid (HG8.out.below hb9)
              have HB9 := hid (HB8.out.trans (hb9.mono HB8.out.size))
              clear HG8 HB8 hb9
              go_wp2_with fail
              refine (sure_any _ HG9.out).mono ?_
              rintro e w10 ⟨rfl, hb10⟩
              go_wp2
              go_ret
              exact ⟨rfl, HB9.out.trans (hb10.mono HB9.out.size)⟩

theorem own : ownKnob Tryd.prog.godebug = none := by kernel_rfl

set_option maxRecDepth 100000 in
theorem contract (H : Type) (enc : TypeId × Value → H) (W : World) (base : Nat) (args : Array Value) (ds gs : List (DataW H)) (before : List MemPlace)
    (hval : ∀ (j : Nat) t v, Tryd.f6.params[j]? = some t → args[j]? = some v → Value.okWide Tryd.prog W .any base t v)
    (hW : DataW.Whole enc Tryd.prog Tryd.f6.params.toList Rows.pathLimitsSpec.vars false W args.toList ds gs before)
    (hsz : (DataW.weightsEach Tryd.prog (Tryd.f6.params.toList ++ Rows.pathLimitsSpec.plain.varTypes Tryd.prog) (ds ++ gs)).all (· ≤ reachBytes) = true)
    (hL : laidMetH Tryd.prog Rows.pathLimitsRow.laid W)
    (hSh : W.ShapedOpen Tryd.prog)
    : Calls Tryd.prog 6 args W fun e W' => ∃ v, e = .returned v ∧ Rows.pathLimitsSpec.post enc Tryd.prog Tryd.f6 false true false false W args v W' := by
  have hW' := hW
  obtain ⟨p, q, hA0, hV, rfl, hfz, hnd⟩ := hW
  have hA : DataW.TrodAll enc Tryd.prog W 0 (fun _ => true) true Tryd.f6.params.toList args.toList ds p := hA0
  rw [Tryd.params6] at hA hval hsz
  obtain ⟨hargs, rfl, rfl⟩ := trodAll_nil hA
  obtain rfl : args = #[] := by cases args; simp_all
  obtain ⟨rfl, rfl⟩ := trodVars_none hV
  clear hA0 hsz
  simp only [List.append_nil] at hW'
  refine (walk  W  ⟨handle_of hL, max_of hSh⟩).mono fun e W' ⟨he, hb⟩ => ?_
  subst he
  exact ⟨_, rfl, _, _, _, [], [], [], hW', trodAll_cons_mk (shut_bool Tryd.underlying4 _) trodAll_mk0, trodAll_mk0, rfl, hb.frame _, fun h => by cases h⟩

set_option maxRecDepth 100000 in
theorem lifted (os : Os) (started : os.Started) (H : Type) (enc : TypeId × Value → H) (F : Stop.Interp) :
    ReturnsInHanded {} Tryd.checked os 6 .any ((OpenSpec.ofChange Rows.pathLimitsSpec).preRow enc Tryd.prog Tryd.f6 Rows.pathLimitsRow.domain false Rows.pathLimitsRow.laid) (((OpenSpec.ofChange Rows.pathLimitsSpec).at F).post enc Tryd.prog Tryd.f6 false true false false) := by
  refine returnsInHanded_of_row (C := Tryd.checked) (s := OpenSpec.ofChange Rows.pathLimitsSpec) own started (by kernel_rfl) Tryd.func6
    (witness_row_at (enc := enc) (C := Tryd.checked) false
      { World.holding Tryd.prog os ⟨#[], #[], []⟩ with heap := ((((World.holding Tryd.prog os ⟨#[], #[], []⟩).heap.modify 0 fun
          | .cells _ t frozen => .cells #[.iface 92 (.agg #[.pointer (some ⟨4, 24, none⟩)])] t frozen
          | o => o).modify 2 fun
          | .cells _ t frozen => .cells firstCells t frozen
          | o => o).modify 3 fun
          | .cells _ t frozen => .cells rangeCells t frozen
          | o => o) }
      #[] rfl (by kernel_rfl) (by kernel_rfl) (by kernel_rfl)
      (OpenSpec.preRow_of_cond 8 (x := ([], [], [])) (by kernel_rfl) (by kernel_rfl) (fun k hk => by cases hk) (by kernel_rfl) (laidMetH_of_parts (laidMet_of_run' 300 (by kernel_rfl) (by kernel_rfl)) (by kernel_rfl)))) ?_
  intro W base args ds gs before hval hW _ hcond hsz hL hSh _
  exact contract H enc W base args ds gs before hval hW hsz hL hSh

theorem said : Rows.PathLimitsSaid :=
  OpenClaim.holds_of_cond 6 Tryd.f6 rfl rfl rfl rfl rfl rfl rfl ⟨rfl, rfl, rfl, rfl, rfl⟩ rfl rfl rfl rfl rfl (by kernel_rfl) Tryd.func6 (by kernel_rfl)
    (of_decide_eq_true (by kernel_rfl)) (by unfold Func.isWrapper; first | (rw [if_pos (by decide +kernel)]; kernel_rfl) | (rw [if_neg (by decide +kernel)]; exact ⟨rfl, rfl⟩))
    (fun os started H enc _ F => by rw [OpenClaim.pre_eq_preRow]; exact lifted os started H enc F)

theorem plain (f : FuncId) (fn : Func) (hf : Tryd.pinned.checked.prog.funcNamed Rows.pathLimitsRow.func = some f) (hfn : Tryd.pinned.checked.prog.funcs[f]? = some fn) :
    true = Tryd.pinned.checked.prog.looks [] ∧ ∀ (j : Nat) t, fn.params[j]? = some t → Tryd.pinned.checked.prog.wantsStandIn t = false := by
  obtain rfl : f = 6 := Option.some.inj ((show Tryd.prog.funcNamed Rows.pathLimitsRow.func = some 6 by kernel_rfl).symm.trans hf) |>.symm
  obtain rfl : fn = Tryd.f6 := (Option.some.inj (Tryd.func6.symm.trans hfn)).symm
  refine ⟨by kernel_rfl, fun j t ht => ?_⟩
  rw [Tryd.params6] at ht
  simp at ht

theorem card : Rows.PathLimitsCardSaid :=
  Claim7.holds_tied_plain_at .later [] _ _ _ _ said (fun _ h => by cases h) (by kernel_rfl) (fun _ h => by cases h) pathLimits_row_tie rfl ⟨rfl, rfl⟩ (by kernel_rfl) rfl plain (by kernel_rfl)
end Go.Proofs.YtmlgggnjghkojaaDoor.pathLimits
