/-
  rightCores, rightSplit and rightPlaces of the program.
  Conditions: the slices read as pieces, as places; the numbers are of their kinds.
-/
import Derived.Test.YtkgkanmccaodfaaM15
import Derived.Test.YtkgkanmccaodfaaM13
import Derived.Test.YtkgkanmccaodfaaM09
import Derived.Test.YtkgkanmccaodfaaM12

/-
  How many ticks are available from one on, as the program's loom tells it.
  Conditions: the slice reads as the cores; the gaps are ticks of the frame.
-/
set_option linter.unusedVariables false
set_option linter.unusedSimpArgs false
namespace Go.Proofs.Ytkgkanmccaodfaa
open Go.RowKit

theorem cnF_top (p : Nat → Bool) : ∀ n : Nat, cnF p n ≤ n
  | 0 => Nat.le_refl _
  | n + 1 => by have := cnF_top p n; have := Bool.toNat_le (p n); rw [cnF]; omega
theorem arrB_drop (R : Nat → Bool) {i : Nat} (h : i < 16) : (arrB R).toList.drop i = .bool (R i) :: (arrB R).toList.drop (i + 1) := by
  have h1 : (arrB R).toList.length = 16 := by rw [Array.length_toList, arrB_size]
  rw [List.drop_eq_getElem_cons (by omega)]
  congr 1
  have h2 := arrB_get R h
  rw [← Array.getElem?_toList, List.getElem?_eq_getElem (by omega)] at h2
  exact Option.some.inj h2
theorem MatchIn.setAll {M : Nat} {F : Int} {v : Value} {g r ow : Nat → Nat} (R : Nat → Bool) : ∀ (d i : Nat), i + d = 16 → ∀ (W : World) (T : Nat → Bool), MatchIn W M F v g r ow T →
    ∃ T', MatchIn (W.setCells M (50 + i) ((arrB R).toList.drop i)) M F v g r ow T' ∧ (∀ c, c < i → T' c = T c) ∧ (∀ c, i ≤ c → c < 16 → T' c = R c)
  | 0, i, hi, W, T, h => by
    have hi16 : i = 16 := by omega
    subst hi16
    have : (arrB R).toList.drop 16 = [] := List.drop_eq_nil_of_le (by rw [Array.length_toList, arrB_size]; exact Nat.le_refl _)
    rw [this]
    exact ⟨T, h, fun _ _ => rfl, fun c h1 h2 => by omega⟩
  | d + 1, i, hi, W, T, h => by
    rw [arrB_drop R (by omega), World.setCells]
    obtain ⟨T', h1, h2, h3⟩ := MatchIn.setAll R d (i + 1) (by omega) _ _ (h.setTried (c := i) (x := R i) (by omega))
    refine ⟨T', h1, fun c hc => ?_, fun c hc hc16 => ?_⟩
    · rw [h2 c (by omega), if_neg (by omega)]
    · by_cases e : c = i
      · rw [h2 c (by omega), if_pos e, e]
      · exact h3 c (by omega) hc16
theorem Apart.setCells {F : Nat → Prop} {a : World} {b : Nat} (hb : F b) : ∀ (vs : List Value) (o : Nat) (w : World), Apart F a w → Apart F a (w.setCells b o vs)
  | [], _, _, h => h
  | v :: vs, o, w, h => by rw [World.setCells]; exact Apart.setCells hb vs (o + 1) _ (h.set (.inl hb) v)
theorem arrB_congr {g h : Nat → Bool} (e : ∀ i, i < 16 → g i = h i) : arrB g = arrB h := by
  unfold arrB
  congr 1
  exact List.map_congr_left fun i hi => by rw [e i (List.mem_range.1 hi)]
theorem MAt.setAll {W0 W : World} {M : Nat} {F : Int} {v : Value} {g r ow : Nat → Nat} {T : Nat → Bool} (h : MAt W0 W M F v g r ow T) (R : Nat → Bool) : MAt W0 (W.setCells M 50 (arrB R).toList) M F v g r ow R := by
  obtain ⟨T', h1, _, h3⟩ := MatchIn.setAll R 16 0 rfl W T h.box
  refine ⟨Apart.setCells (F := fun b => b = M) rfl _ _ _ h.apart, ?_⟩
  have e : matchC F v g r ow T' = matchC F v g r ow R := by unfold matchC; rw [arrB_congr fun c hc => h3 c (Nat.zero_le _) hc]
  have h1' : (W.setCells M (50 + 0) ((arrB R).toList.drop 0)).heap[M]? = some (.cells (matchC F v g r ow T') 77 (0, 0)) := h1
  rw [e] at h1'
  exact h1'
theorem MatchIn.range {W : World} {M : Nat} {F : Int} {v : Value} {g r ow : Nat → Nat} {T : Nat → Bool} (h : MatchIn W M F v g r ow T) : W.rangeAt M 50 (arrB T).toList := fun j u hu => by
  have hj : j < 16 := by have := (List.getElem?_eq_some_iff.1 hu).1; rw [Array.length_toList, arrB_size] at this; exact this
  rw [h.tried hj, ← arrB_get T hj, ← Array.getElem?_toList, hu]
theorem MatchIn.there {W : World} {M : Nat} {F : Int} {v : Value} {g r ow : Nat → Nat} {T : Nat → Bool} (h : MatchIn W M F v g r ow T) : W.there M 50 16 := fun j hj => ⟨by rw [h.tried hj]; rfl, block_free h⟩

/-- What a loom is asked for. -/
structure LoomOk (F nc : Nat) (g r : Nat → Nat) (cs : List Int) : Prop where
  f64 : F ≤ 64
  len : cs.length = nc
  few : nc ≤ 16
  core : ∀ (i : Nat) (x : Int), cs[i]? = some x → ∃ c : Nat, c < 16 ∧ x = (c : Int)
  all : ∀ c : Nat, c < 16 → ∀ t, (g c).testBit t = true → ∃ i : Nat, cs[i]? = some (c : Int)
  asc : ∀ (i j : Nat) (x y : Int), i < j → cs[i]? = some x → cs[j]? = some y → x < y
  glt : ∀ c, c < 16 → g c < 18446744073709551616
  rle : ∀ c, c < 16 → r c ≤ 64
  gF : ∀ c, c < 16 → ∀ t, (g c).testBit t = true → t < F

set_option maxRecDepth 100000 in
set_option maxHeartbeats 8000000 in
theorem loomMost_any (F : Nat) (A : Option Addr) (nc cA : Nat) (g r : Nat → Nat) (cs : List Int) (hO : LoomOk F nc g r cs) (k : Nat) (w : World) (hk : k ≤ 64) (hv : IntsAt w (.slice A nc cA) cs) :
    Calls Try.prog 28 #[loomA F (.slice A nc cA) g r, .int .i64 (k : Int)] w (RetB (.int .i64 (mostT g r k : Nat)) w) := by
  obtain ⟨L, hL⟩ : ∃ L, loomC F (.slice A nc cA) g r = L := ⟨_, rfl⟩
  obtain ⟨Z, hZ⟩ : ∃ Z, matchC 0 (.slice none 0 0) (fun _ => 0) (fun _ => 0) (fun _ => 0) (fun _ => false) = Z := ⟨_, rfl⟩
  obtain ⟨M0, hM0⟩ : ∃ M0, matchC F (.slice A nc cA) g r (fun _ => 0) (fun _ => false) = M0 := ⟨_, rfl⟩
  have HSL : Hid ((Try.prog.info? 57).map (·.size) = some L.size) := Lib.hid (by rw [← hL]; exact Try.sizeLm _ _ _ _)
  have HSM : Hid ((Try.prog.info? 77).map (·.size) = some M0.size) := Lib.hid (by rw [← hM0]; exact Try.sizeMt _ _ _ _ _ _)
  have HBM : Hid (Try.prog.built 77 [(0, .agg L)] = some M0) := Lib.hid (by rw [← hL, ← hM0]; exact Try.builtMt _ _ _ _)
  have HZM : Hid ((Try.prog.info? 77).bind (·.zero) = some (.agg Z)) := Lib.hid (by rw [← hZ]; exact Try.zeroMt)
  have HZS : Hid (Z.size = M0.size) := Lib.hid (by rw [← hZ, ← hM0, matchC_size, matchC_size])
  have HM1 : Hid (M0.all (·.oneCell') = true) := Lib.hid (by rw [← hM0]; exact matchC_one _ _ _ _ _ _ _ _)
  obtain ⟨w1, X, hw1, hX, hXl, hb1, hbox⟩ := box_any w L 57
  obtain ⟨w2, M, hw2, hM, hMl, hb2, hmox⟩ := box_any w1 Z 77
  have HX := Lib.hid hbox
  have HM := Lib.hid hmox
  obtain ⟨w3, hw3⟩ : ∃ w3, w2.setRow M M0 = w3 := ⟨_, rfl⟩
  have HXM : Hid (X < M ∧ w.heap.size ≤ X ∧ w.heap.size ≤ w3.heap.size) := Lib.hid ⟨by omega, by omega, by rw [← hw3, setRow_size]; have := hb1.size; have := hb2.size; omega⟩
  have HB3 : Hid (Below w.heap.size w w3) := Lib.hid (by rw [← hw3]; exact below_row (hb1.trans (hb2.mono hb1.size)) (by omega) _)
  have HM3 : Hid (MAt w3 w3 M F (.slice A nc cA) g r (fun _ => 0) (fun _ => false)) := Lib.hid ⟨Apart.refl _ _, by
    show w3.heap[M]? = some (.cells (matchC F (.slice A nc cA) g r (fun _ => 0) (fun _ => false)) 77 (0, 0))
    rw [← hw3, hM0]
    exact setRow_heap _ _ _ _ _ _ hmox⟩
  have HX3 : Hid (LoomIn w3 X F (.slice A nc cA) g r) := Lib.hid (by
    show w3.heap[X]? = some (.cells (loomC F (.slice A nc cA) g r) 57 (0, 0))
    rw [hL, ← hw3, setRow_other _ _ _ _ (by omega)]
    exact keep_block hbox hb2)
  have HCS : Hid (∀ W', Apart (fun b => b = M) w3 W' → IntsAt W' (.slice A nc cA) cs) := Lib.hid (fun W' ha => hv.keep (HB3.out.trans (ha.below HXM.out.2.2 fun b hb e => by have := HXM.out; omega)))
  have HFR : Hid (∀ W', Apart (fun b => b = M) w3 W' → W'.cell? ⟨X, 0, none⟩ = some (.int .i64 (F : Int))) := Lib.hid (fun W' ha => LoomIn.frame ((ha.block X (heap_lt HX3.out) (by have := HXM.out; omega)).trans HX3.out))
  have HOO := Lib.hid hO
  have hF64 := hO.f64
  clear hO hv hb1 hb2 hbox hmox hZ hM0
  unfold loomA
  rw [hL]
  go_enter Try.func28, Try.ntmps28
  go_wp2_with (first | refine wpList_load_row rfl _ _ rfl X rfl 57 L (0, 0) _ HX.out Try.underlying57 rfl HSL.out ?_ | refine wpList_build_is rfl _ _ rfl [(0, .agg L)] M0 (by simp [Act.eval, Act.put]) HBM.out ?_ | (refine wpList_alloc_is rfl _ rfl Z HZM.out ?_; rw [hw2, hM]) | refine wpList_store_row rfl _ _ _ rfl M M0 rfl rfl 77 _ HM.out HSM.out HZS.out HM1.out ?_)
  clear hw1 hw2 hw3 hX hM hL HX HM HSL HSM HBM HZM HZS HM1
  go_loopg [6, 7] (F - k) (fun gg s6 s7 wr => ∃ (T : Nat) (ow : Nat → Nat) (R : Nat → Bool) (n : Nat), k ≤ T ∧ (T ≤ F ∨ T = k) ∧ gg = F - T ∧ s6 = .int .i64 n ∧ s7 = .int .i64 T ∧ Hid (MAt w3 wr M F (.slice A nc cA) g r ow R) ∧ Hid (Kuhn g r k T ow R n))
  case atStart => exact ⟨k, _, _, 0, Nat.le_refl _, .inr rfl, rfl, rfl, rfl, HM3, Lib.hid (Kuhn.start g r k)⟩
  case round =>
    obtain ⟨T, ow, R, n, hkT, hTF, hgg, rfl, rfl, HMR, HK⟩ := hrel
    have HG := Lib.hid hgg
    have hn64 : n ≤ 64 := by rw [← HK.out.num]; exact cnF_top _ _
    have r0 := HFR.out wr HMR.out.apart
    clear hgg
    by_cases hlt : T < F
    · have hltz : (T : Int) < (F : Int) := by omega
      have hT64 : T < 64 := by omega
      have hT0 : (0 : Int) ≤ (T : Int) := by omega
      obtain ⟨w4, Q, hw4, hQ, hQl, hb4, hqox⟩ := box_any wr (arrB fun _ => false) 75
      obtain ⟨w5, hw5⟩ : ∃ w5, w4.setRow Q (arrB R) = w5 := ⟨_, rfl⟩
      have HQ := Lib.hid hqox
      have HB5 : Hid (Below wr.heap.size wr w5) := Lib.hid (by rw [← hw5]; exact below_row hb4 (by omega) _)
      have HQ5 : Hid (w5.heap[Q]? = some (.cells (arrB R) 75 (0, 0))) := Lib.hid (by rw [← hw5]; exact setRow_heap _ _ _ _ _ _ hqox)
      have HQM : Hid (Q ≠ M) := Lib.hid (by have := heap_lt HMR.out.box; omega)
      have HM5 := Lib.hid (HMR.out.keep HB5.out)
      have HRG := Lib.hid HMR.out.box.range
      have HCA := Lib.hid (assign_any w3 M F A nc cA g r cs HOO.out.len HOO.out.few HCS.out HOO.out.core HOO.out.all HOO.out.glt HOO.out.rle (untr R) ow R T w5 (Nat.le_refl _) hT64 HK.out.ok HK.out.one (fun c hc _ => HK.out.no c hc) HM5.out)
      obtain ⟨B, hB⟩ : ∃ B, arrB R = B := ⟨_, rfl⟩
      obtain ⟨Z2, hZ2⟩ : ∃ Z2, arrB (fun _ => false) = Z2 := ⟨_, rfl⟩
      have HZB : Hid ((Try.prog.info? 75).bind (·.zero) = some (.agg Z2)) := Lib.hid (by rw [← hZ2]; exact Try.zeroAB)
      have HSB : Hid ((Try.prog.info? 75).map (·.size) = some B.size) := Lib.hid (by rw [← hB]; exact Try.sizeAB _)
      have HSBL : Hid ((Try.prog.info? 75).map (·.size) = some B.toList.length) := Lib.hid (by rw [Array.length_toList]; exact HSB.out)
      have HZB2 : Hid (Z2.size = B.size) := Lib.hid (by rw [← hB, ← hZ2, arrB_size, arrB_size])
      have HB1 : Hid (B.all (·.oneCell') = true) := Lib.hid (by rw [← hB]; exact arrB_one _)
      have HBR : Hid (arrB R = B) := Lib.hid hB
      have HB16 : Hid (B.size = 16) := Lib.hid (by rw [← hB]; exact arrB_size _)
      rw [hB] at HRG HQ5 hw5
      rw [hZ2] at HQ hw4
      clear hb4 hqox hB hZ2
      go_wp2_with (first | (refine wpList_load_mid rfl _ _ rfl M 50 rfl B.toList _ HRG.out Try.underlying75 rfl HSBL.out ?_; rw [Array.toArray_toList]) | (refine wpList_alloc_is rfl _ rfl Z2 HZB.out ?_; rw [hw4, hQ]) | refine wpList_store_row rfl _ _ _ rfl Q B rfl rfl 75 _ HQ.out HSB.out HZB2.out HB1.out ?_)
      clear r0 hw4 hw5 hQ
      refine HCA.out.mono ?_
      rintro e w6 ⟨ow2, R2, hm6, ⟨rfl, hf⟩ | ⟨rfl, how, hv, hs⟩⟩
      · have HM6 := Lib.hid (HM5.out.trans hm6)
        have HQ6 : Hid (w6.heap[Q]? = some (.cells B 75 (0, 0))) := Lib.hid ((hm6.apart.block Q (heap_lt HQ5.out) HQM.out).trans HQ5.out)
        have HTH := Lib.hid HM6.out.box.there
        have HKN := Lib.hid (HK.out.found hkT hT64 hf)
        have HSA : Hid (MAt w3 (w6.setCells M 50 B.toList) M F (.slice A nc cA) g r ow2 R) := Lib.hid (by rw [← HBR.out]; exact HM6.out.setAll R)
        obtain ⟨wS, hwS⟩ : ∃ wS, w6.setCells M 50 B.toList = wS := ⟨_, rfl⟩
        clear hm6 hf
        go_wp2_with (first | refine wpList_load_row rfl _ _ rfl Q rfl 75 B (0, 0) _ HQ6.out Try.underlying75 rfl HSB.out ?_ | (refine wpList_store_mid rfl _ _ _ rfl M 50 B rfl rfl (by rw [HB16.out]; exact HTH.out) HSB.out HB1.out ?_; rw [hwS]))
        rw [hwS] at HSA
        go_roundg (F - (T + 1))
        case measure => have := HG.out; omega
        case rel => exact ⟨T + 1, ow2, R, n + 1, by omega, by omega, rfl, by go_num, by go_num, HSA, HKN⟩
      · rw [how] at hm6
        have HM6 := Lib.hid (HM5.out.trans hm6)
        have HKN := Lib.hid (HK.out.vain hv hs)
        clear hm6 hv hs how
        go_wp2_with fail
        go_roundg (F - (T + 1))
        case measure => have := HG.out; omega
        case rel => exact ⟨T + 1, ow, R2, n, by omega, by omega, rfl, rfl, by go_num, HM6, HKN⟩
    · have HFIN : Hid (n = mostT g r k) := Lib.hid (HK.out.most fun c hc t _ hTt => by
        rw [← Bool.not_eq_true]
        intro hb
        have := HOO.out.gF c hc t hb
        omega)
      have HBE := Lib.hid (HB3.out.trans (HMR.out.apart.below HXM.out.2.2 fun b hb e => by have := HXM.out; omega))
      go_wp2_with fail
      go_ret
      exact ⟨by rw [HFIN.out]; rfl, HBE.out⟩
end Go.Proofs.Ytkgkanmccaodfaa

/-
  The lowest core that can have a tick, as the program's loom tells it.
  Conditions: the slice reads as the cores; the gaps are ticks of the frame.
-/
set_option linter.unusedVariables false
set_option linter.unusedSimpArgs false
namespace Go.Proofs.Ytkgkanmccaodfaa
open Go.RowKit

def okC (g r : Nat → Nat) (t lack c : Nat) : Bool := decide (r c ≠ 0) && (g c).testBit t && decide (lack - 1 ≤ mostT g (lessR r c) (t + 1))
def coreO : Option Nat → Int
  | none => 0
  | some c => (c : Int)
theorem weaveC_is {g r : Nat → Nat} {t lack c : Nat} (hc : c < 16) (h : ∀ j, j < c → okC g r t lack j = false) (h1 : okC g r t lack c = true) : weaveC g r t lack = some c := by
  unfold weaveC
  rw [List.find?_range_eq_some]
  refine ⟨h1, List.mem_range.2 hc, fun j hj => ?_⟩
  have := h j hj
  unfold okC at this
  rw [this]
  rfl
theorem weaveC_no {g r : Nat → Nat} {t lack : Nat} (h : ∀ j, j < 16 → okC g r t lack j = false) : weaveC g r t lack = none := by
  unfold weaveC
  rw [List.find?_range_eq_none]
  intro j hj
  have := h j hj
  unfold okC at this
  rw [this]
  rfl
theorem okC_gap {g r : Nat → Nat} {t lack c : Nat} (h : (g c).testBit t = false) : okC g r t lack c = false := by unfold okC; rw [h, Bool.and_false, Bool.false_and]
theorem LoomOk.less {F nc : Nat} {g r : Nat → Nat} {cs : List Int} (h : LoomOk F nc g r cs) (c : Nat) : LoomOk F nc g (lessR r c) cs :=
  ⟨h.f64, h.len, h.few, h.core, h.all, h.asc, h.glt, fun d hd => Nat.le_trans (by unfold lessR; split <;> omega) (h.rle d hd), h.gF⟩
theorem LoomOk.rooms {F nc : Nat} {g r r' : Nat → Nat} {cs : List Int} (h : LoomOk F nc g r cs) (hr : ∀ c, c < 16 → r' c ≤ r c) : LoomOk F nc g r' cs :=
  ⟨h.f64, h.len, h.few, h.core, h.all, h.asc, h.glt, fun d hd => Nat.le_trans (hr d hd) (h.rle d hd), h.gF⟩
theorem loomC_congr {F : Int} {v : Value} {g g' r r' : Nat → Nat} (hg : ∀ c, c < 16 → g c = g' c) (hr : ∀ c, c < 16 → r c = r' c) : loomC F v g r = loomC F v g' r' := by
  unfold loomC
  rw [arrU_congr hg, arrI_congr fun c hc => by rw [hr c hc]]

set_option maxRecDepth 100000 in
set_option maxHeartbeats 8000000 in
theorem lowest_any (F : Nat) (A : Option Addr) (nc cA : Nat) (g r : Nat → Nat) (cs : List Int) (hO : LoomOk F nc g r cs) (t lack : Nat) (w : World) (ht : t < 64) (hl0 : 0 < lack) (hl : lack ≤ 64) (hv : IntsAt w (.slice A nc cA) cs) :
    Calls Try.prog 59 #[loomA F (.slice A nc cA) g r, .int .i64 (t : Int), .int .i64 ((lack - 1 : Nat) : Int)] w
      (RetB (.tuple #[.int .i64 (coreO (weaveC g r t lack)), .bool (weaveC g r t lack).isSome]) w) := by
  have HMO := Lib.hid (fun c W hv => loomMost_any F A nc cA g (lessR r c) cs (hO.less c) (t + 1) W (by omega) hv)
  obtain ⟨L, hL⟩ : ∃ L, loomC F (.slice A nc cA) g r = L := ⟨_, rfl⟩
  obtain ⟨Z, hZ⟩ : ∃ Z, loomC 0 (.slice none 0 0) (fun _ => 0) (fun _ => 0) = Z := ⟨_, rfl⟩
  have HLL := Lib.hid hL
  have HSL : Hid ((Try.prog.info? 57).map (·.size) = some L.size) := Lib.hid (by rw [← hL]; exact Try.sizeLm _ _ _ _)
  have HZM : Hid ((Try.prog.info? 57).bind (·.zero) = some (.agg Z)) := Lib.hid (by rw [← hZ]; exact Try.zeroLm)
  have HZS : Hid (Z.size = L.size) := Lib.hid (by rw [← hZ, ← hL, loomC_size, loomC_size])
  have HM1 : Hid (L.all (·.oneCell') = true) := Lib.hid (by rw [← hL]; exact loomC_one _ _ _ _ _ _)
  obtain ⟨w1, X, hw1, hX, hXl, hb1, hbox⟩ := box_any w L 57
  have HX := Lib.hid hbox
  have HXL : Hid (LoomIn w1 X F (.slice A nc cA) g r) := Lib.hid (by show _ = some (Obj.cells (loomC F (.slice A nc cA) g r) _ _); rw [hL]; exact hbox)
  have HB1 := Lib.hid hb1
  have HV := Lib.hid hv
  have HOO := Lib.hid hO
  have r0 := HXL.out.cores
  obtain ⟨m1, hm1⟩ : ∃ m1, lack - 1 = m1 := ⟨_, rfl⟩
  have HL1 := Lib.hid hm1
  rw [hm1]
  unfold loomA at HMO ⊢
  rw [hL]
  have ht0 : (0 : Int) ≤ (t : Int) := by omega
  have ht64 : (t : Int) < 64 := by omega
  clear hO hv hL hZ hb1 hbox hm1
  go_enter Try.func59, Try.ntmps59
  go_wp2_with fail
  clear hw1 hX r0
  go_loopg [9, 14] nc (fun gg s9 s14 wr => ∃ i : Nat, i ≤ nc ∧ gg = nc - i ∧ s14 = .int .i64 i ∧ Hid (Below w1.heap.size w1 wr) ∧ Hid (∀ a, a < i → ∀ c : Nat, cs[a]? = some (c : Int) → okC g r t lack c = false))
  case atStart => exact ⟨0, Nat.zero_le _, rfl, rfl, Lib.hid (Below.refl _ _), Lib.hid (fun a h => absurd h (Nat.not_lt_zero _))⟩
  case round =>
    obtain ⟨i, hi, hgg, rfl, HBR, HAL⟩ := hrel
    have HG := Lib.hid hgg
    clear hgg
    have hfew := HOO.out.few
    by_cases hlt : i < nc
    · have hltz : (i : Int) < (nc : Int) := by omega
      have hi0 : (0 : Int) ≤ (i : Int) := by omega
      obtain ⟨x, hx⟩ : ∃ x, cs[i]? = some x := ⟨_, List.getElem?_eq_getElem (by rw [HOO.out.len]; exact hlt)⟩
      obtain ⟨c, hc, rfl⟩ := HOO.out.core i x hx
      have hc0 : (0 : Int) ≤ (c : Int) := by omega
      have hc16 : (c : Int) < 16 := by omega
      have HVR := Lib.hid (HV.out.keep (HB1.out.trans (HBR.out.mono HB1.out.size)))
      obtain ⟨A', c', hA', hlm, hcell⟩ := HVR.out
      obtain ⟨b, off, hAb, hbl, hcl⟩ := hcell (by rw [HOO.out.len]; omega)
      have e0 := hcl i _ hx
      rw [hAb] at hA'
      have hA2 : A = some ⟨b, off, none⟩ := by simp only [Value.slice.injEq] at hA'; exact hA'.1
      rw [hA2]
      have HXI := Lib.hid hx
      have HNEXT : Hid (okC g r t lack c = false → ∀ a, a < i + 1 → ∀ d : Nat, cs[a]? = some (d : Int) → okC g r t lack d = false) := Lib.hid (fun hcc a ha d hd => by
        by_cases e : a = i
        · subst e
          have h9 := HXI.out
          rw [hd] at h9
          have h8 : (d : Int) = (c : Int) := by simpa using h9
          have : d = c := by omega
          subst this
          exact hcc
        · exact HAL.out a (by omega) d hd)
      have HXR : Hid (LoomIn wr X F (.slice A nc cA) g r) := Lib.hid (keep_block HXL.out HBR.out)
      have e2 := HXR.out.gap hc
      have e3 := HXR.out.room hc
      have HHS := Lib.hid (fun W => has_any (g c) (t : Int) W (HOO.out.glt c hc))
      rw [hasB_nat ht] at HHS
      obtain ⟨rc, hrc⟩ : ∃ rc, r c = rc := ⟨_, rfl⟩
      have HRC := Lib.hid hrc
      have hr64 : rc ≤ 64 := by rw [← hrc]; exact HOO.out.rle c hc
      rw [hrc] at e3
      clear hcell hcl hA' hAb hlm hx hrc
      by_cases hz : rc = 0
      · subst hz
        have HOKF : Hid (okC g r t lack c = false) := Lib.hid (by unfold okC; rw [HRC.out]; rfl)
        go_wp2_with fail
        rw [← hA2]
        go_roundg (nc - (i + 1))
        case measure => have := HG.out; omega
        case rel => exact ⟨i + 1, by omega, rfl, by go_num, HBR, Lib.hid (HNEXT.out HOKF.out)⟩
      · have hzb : ((rc : Int) == 0) = false := by simp; exact hz
        obtain ⟨b2, hb2⟩ : ∃ b2, (g c).testBit t = b2 := ⟨_, rfl⟩
        have HB2 := Lib.hid hb2
        rw [hb2] at HHS
        clear hb2
        cases b2 with
        | false =>
          go_wp2_with (go_at_call 77; refine (HHS.out _).mono ?_; rintro e w' ⟨rfl, rfl⟩)
          rw [← hA2]
          go_roundg (nc - (i + 1))
          case measure => have := HG.out; omega
          case rel => exact ⟨i + 1, by omega, rfl, by go_num, HBR, Lib.hid (HNEXT.out (okC_gap HB2.out))⟩
        | true =>
          obtain ⟨w4, Y, hw4, hY, hYl, hb4, hyox⟩ := box_any wr Z 57
          obtain ⟨w5, hw5⟩ : ∃ w5, w4.setRow Y L = w5 := ⟨_, rfl⟩
          have HY := Lib.hid hyox
          have HB5 : Hid (Below wr.heap.size wr w5) := Lib.hid (by rw [← hw5]; exact below_row hb4 (by omega) _)
          have HY5 : Hid (LoomIn w5 Y F (.slice A nc cA) g r) := Lib.hid (by
            show w5.heap[Y]? = some (.cells (loomC F (.slice A nc cA) g r) 57 (0, 0))
            rw [← hw5, HLL.out]
            exact setRow_heap _ _ _ _ _ _ hyox)
          obtain ⟨rd, hrd⟩ : ∃ rd, rc - 1 = rd := ⟨_, rfl⟩
          obtain ⟨w6, hw6⟩ : ∃ w6, w5.setCell ⟨Y, 18 + c, none⟩ (.int .i64 (rd : Int)) = w6 := ⟨_, rfl⟩
          obtain ⟨L2, hL2⟩ : ∃ L2, loomC F (.slice A nc cA) g (lessR r c) = L2 := ⟨_, rfl⟩
          have HY6 : Hid (w6.heap[Y]? = some (.cells L2 57 (0, 0))) := Lib.hid (by
            have h := HY5.out.setRoom (c := c) (x := rd) hc
            have e : loomC F (.slice A nc cA) g (fun i => if i = c then rd else r i) = L2 := by
              rw [← hL2]
              refine loomC_congr (fun _ _ => rfl) fun d hd => ?_
              unfold lessR
              by_cases e : d = c
              · subst e; rw [if_pos rfl, if_pos rfl, HRC.out, hrd]
              · rw [if_neg e, if_neg e]
            have h' : (w5.setCell ⟨Y, 18 + c, none⟩ (.int .i64 (rd : Int))).heap[Y]? = some (.cells (loomC F (.slice A nc cA) g (fun i => if i = c then rd else r i)) 57 (0, 0)) := h
            rw [e, hw6] at h'
            exact h')
          have HSL2 : Hid ((Try.prog.info? 57).map (·.size) = some L2.size) := Lib.hid (by rw [← hL2]; exact Try.sizeLm _ _ _ _)
          have HB6 : Hid (Below wr.heap.size wr w6) := Lib.hid (by rw [← hw6]; exact ((Apart.of_below (F := fun b => b = Y) HB5.out).set (p := ⟨Y, 18 + c, none⟩) (.inl rfl) _).below (Nat.le_refl _) fun k hk e => by omega)
          have HM6 := Lib.hid (HMO.out c w6 (HVR.out.keep HB6.out))
          rw [hL2] at HM6
          obtain ⟨M, hM⟩ : ∃ M, mostT g (lessR r c) (t + 1) = M := ⟨_, rfl⟩
          rw [hM] at HM6
          have HMM := Lib.hid hM
          have hws : IntKind.i64.wrap ((rc : Int) - 1) = (rd : Int) := by rw [IntKind.wrap_i64, show (rc : Int) - 1 = (rd : Int) by omega]; omega
          have y0 := HY5.out.room hc
          rw [HRC.out] at y0
          have y1 : w5.frozen? ⟨Y, 18 + c, none⟩ = false := block_free HY5.out
          have HXR2 : Hid (wr.heap[X]? = some (.cells L 57 (0, 0))) := Lib.hid (by have := HXR.out; have h' : wr.heap[X]? = some (.cells (loomC F (.slice A nc cA) g r) 57 (0, 0)) := this; rw [HLL.out] at h'; exact h')
          rw [Int.natCast_succ] at HM6
          clear hb4 hyox hrd hL2 hM
          go_wp2_with (first | (go_at_call 77; refine (HHS.out _).mono ?_; rintro e w' ⟨rfl, rfl⟩) | refine wpList_load_row rfl _ _ rfl X rfl 57 L (0, 0) _ HXR2.out Try.underlying57 rfl HSL.out ?_ | (refine wpList_alloc_is rfl _ rfl Z HZM.out ?_; rw [hw4, hY]) | (refine wpList_store_row rfl _ _ _ rfl Y L rfl rfl 57 _ HY.out HSL.out HZS.out HM1.out ?_; rw [hw5]) | refine wpList_load_row rfl _ _ rfl Y rfl 57 L2 (0, 0) _ HY6.out Try.underlying57 rfl HSL2.out ?_)
          clear y0 y1 hw4 hw5 hw6 hY e0 e2 e3
          refine HM6.out.mono ?_
          rintro e w7 ⟨rfl, hb7⟩
          have HB7 : Hid (Below w1.heap.size w1 w7) := Lib.hid (HBR.out.trans ((HB6.out.trans (hb7.mono HB6.out.size)).mono HBR.out.size))
          clear hb7
          by_cases hle : m1 ≤ M
          · have hd : decide ((m1 : Int) ≤ (M : Int)) = true := decide_eq_true (by omega)
            have HYES : Hid (weaveC g r t lack = some c) := Lib.hid (weaveC_is hc (fun j hj => by
              cases hg : (g j).testBit t with
              | false => exact okC_gap hg
              | true =>
                obtain ⟨a, ha⟩ := HOO.out.all j (by omega) t hg
                have : a < i := by
                  rcases Nat.lt_trichotomy a i with h1 | h1 | h1
                  · exact h1
                  · subst h1
                    have h9 := HXI.out
                    rw [ha] at h9
                    have h8 : (j : Int) = (c : Int) := by simpa using h9
                    omega
                  · have := HOO.out.asc i a _ _ h1 HXI.out ha
                    omega
                exact HAL.out a this j ha) (by
              unfold okC
              rw [HRC.out, HB2.out, HMM.out, HL1.out, decide_eq_true hz, decide_eq_true hle]
              rfl))
            have HBE := Lib.hid (HB1.out.trans (HB7.out.mono HB1.out.size))
            go_wp2_with fail
            go_ret2
            exact ⟨by rw [HYES.out]; rfl, HBE.out⟩
          · have hd : decide ((m1 : Int) ≤ (M : Int)) = false := decide_eq_false (by omega)
            have HOKF : Hid (okC g r t lack c = false) := Lib.hid (by
              unfold okC
              rw [HMM.out, HL1.out, decide_eq_false hle, Bool.and_false])
            go_wp2_with fail
            rw [← hA2]
            go_roundg (nc - (i + 1))
            case measure => have := HG.out; omega
            case rel => exact ⟨i + 1, by omega, rfl, by go_num, HB7, Lib.hid (HNEXT.out HOKF.out)⟩
    · have hin : i = nc := by omega
      subst hin
      have HNO : Hid (weaveC g r t lack = none) := Lib.hid (weaveC_no fun d hd => by
        cases hg : (g d).testBit t with
        | false => exact okC_gap hg
        | true =>
          obtain ⟨a, ha⟩ := HOO.out.all d hd t hg
          have : a < i := by have := (List.getElem?_eq_some_iff.1 ha).1; rw [HOO.out.len] at this; exact this
          exact HAL.out a this d ha)
      have HBE := Lib.hid (HB1.out.trans (HBR.out.mono HB1.out.size))
      go_wp2_with fail
      go_ret2
      exact ⟨by rw [HNO.out]; rfl, HBE.out⟩
end Go.Proofs.Ytkgkanmccaodfaa

/-
  Pieces tick by tick: as the document lays them.
  Conditions: none.
-/
set_option linter.unusedVariables false
namespace Go.Proofs.Ytkgkanmccaodfaa

theorem pcsC_congr {n a s s' : Nat} {r : Nat → Nat} : ∀ {e : Nat}, (∀ i, i < e → takeN r s i = takeN r s' i ∧ loN r s i = loN r s' i) → pcsC n a r s e = pcsC n a r s' e
  | 0, _ => rfl
  | e + 1, h => by
    obtain ⟨h1, h2⟩ := h e (by omega)
    rw [pcsC, pcsC, pcsC_congr fun i hi => h i (by omega), h1]
    unfold pcAt
    rw [h1, h2]
theorem pcsC_upto {n a s : Nat} {r : Nat → Nat} {e : Nat} : ∀ {k : Nat}, e ≤ k → (∀ i, e ≤ i → i < k → takeN r s i = 0) → pcsC n a r s k = pcsC n a r s e
  | 0, h, _ => by rw [Nat.le_zero.1 h]
  | k + 1, h, h0 => by
    by_cases e1 : e = k + 1
    · rw [e1]
    · rw [pcsC, if_pos (h0 k (by omega) (by omega)), List.append_nil]
      exact pcsC_upto (by omega) fun i h1 h2 => h0 i h1 (by omega)
/-- What is left on each core. -/
def lftN (r : Nat → Nat) (k c : Nat) : Nat := r c - takeN r k c
/-- The core at which tick k lies. -/
theorem tick_core {r : Nat → Nat} {k : Nat} (hk : k < sumTo r 16) : ∃ e, e < 16 ∧ curN (lftN r k) = e ∧ sumTo r e ≤ k ∧ k < sumTo r (e + 1) ∧ lftN r k e ≠ 0 := by
  have key : ∀ K, K ≤ 16 → k < sumTo r K → ∃ e, e < K ∧ sumTo r e ≤ k ∧ k < sumTo r (e + 1) := by
    intro K
    induction K with
    | zero => intro _ h; rw [show sumTo r 0 = 0 from rfl] at h; omega
    | succ K ih =>
      intro hK h
      by_cases h3 : k < sumTo r K
      · obtain ⟨e, g1, g2⟩ := ih (by omega) h3
        exact ⟨e, by omega, g2⟩
      · exact ⟨K, by omega, by omega, h⟩
  obtain ⟨e, g1, g2, g3⟩ := key 16 (Nat.le_refl _) hk
  have hne : lftN r k e ≠ 0 := by
    rw [sumTo] at g3
    unfold lftN takeN
    omega
  refine ⟨e, g1, cur_of g1 hne fun i hi => ?_, g2, g3, hne⟩
  have q := sumTo_mono r (show i + 1 ≤ e by omega)
  unfold lftN
  rw [take_all (by omega)]
  omega
theorem take_next {r : Nat → Nat} {k e : Nat} (g2 : sumTo r e ≤ k) (g3 : k < sumTo r (e + 1)) (i : Nat) : takeN r (k + 1) i = takeN r k i + (if i = e then 1 else 0) := by
  rcases Nat.lt_trichotomy i e with h | h | h
  · have q := sumTo_mono r (show i + 1 ≤ e by omega)
    rw [if_neg (by omega), take_all (by omega), take_all (by omega)]
    rfl
  · subst h
    rw [if_pos rfl]
    rw [sumTo] at g3
    unfold takeN
    omega
  · have q := sumTo_mono r (show e + 1 ≤ i by omega)
    rw [if_neg (by omega)]
    unfold takeN
    omega
theorem lft_next {r : Nat → Nat} {k e : Nat} (g2 : sumTo r e ≤ k) (g3 : k < sumTo r (e + 1)) (i : Nat) : lftN r (k + 1) i = lftN r k i - (if i = e then 1 else 0) := by
  unfold lftN
  rw [take_next g2 g3]
  omega
/-- One tick more. -/
theorem tick_step {n a k : Nat} {r : Nat → Nat} (ha : a < n) (hn : n ≤ 64) (hkn : k < n) {e : Nat} (he : e < 16) (g2 : sumTo r e ≤ k) (g3 : k < sumTo r (e + 1)) :
    (takeN r k e = 0 ∧ pcsA n a r (k + 1) = pcsA n a r k ++ [⟨(e : Int), withN 0 ((a + k) % n)⟩] ∧ ∀ y ∈ pcsA n a r k, y.c < (e : Int)) ∨
    (takeN r k e ≠ 0 ∧ ∃ q t, t < 18446744073709551616 ∧ pcsA n a r k = q ++ [⟨(e : Int), t⟩] ∧ pcsA n a r (k + 1) = q ++ [⟨(e : Int), withN t ((a + k) % n)⟩]) := by
  have hlo : loN r k e = sumTo r e := by unfold loN; omega
  have hlo1 : loN r (k + 1) e = sumTo r e := by unfold loN; omega
  have ht1 : takeN r (k + 1) e = takeN r k e + 1 := by rw [take_next g2 g3, if_pos rfl]
  have htk : sumTo r e + takeN r k e = k := by
    rw [sumTo] at g3
    unfold takeN
    omega
  have hpre : pcsC n a r (k + 1) e = pcsC n a r k e := pcsC_congr fun i hi => by
    have q := sumTo_mono r (show i ≤ e by omega)
    exact ⟨by rw [take_next g2 g3, if_neg (by omega)]; rfl, by unfold loN; omega⟩
  have hz : ∀ s, (s = k ∨ s = k + 1) → ∀ i, e + 1 ≤ i → i < 16 → takeN r s i = 0 := fun s hs i hi _ => by
    have q := sumTo_mono r hi
    unfold takeN
    omega
  have hA : ∀ s, (s = k ∨ s = k + 1) → pcsA n a r s = pcsC n a r s (e + 1) := fun s hs => by
    rw [pcsA_eq]
    exact pcsC_upto (by omega) (hz s hs)
  rw [hA k (.inl rfl), hA (k + 1) (.inr rfl), pcsC, pcsC, hpre, if_neg (show ¬ takeN r (k + 1) e = 0 by omega)]
  have hl : (a + sumTo r e) % n < n := Nat.mod_lt _ (by omega)
  have hlater : laterN n ((a + sumTo r e) % n) (takeN r k e) = (a + k) % n := by
    unfold laterN
    rw [Nat.add_mod_mod]
    congr 1
    omega
  have hlt : (a + k) % n < 64 := Nat.lt_of_lt_of_le (Nat.mod_lt _ (by omega)) hn
  have hpc : pcAt n a r (k + 1) e = ⟨(e : Int), withN (roundN n (takeN r k e) ((a + sumTo r e) % n)) ((a + k) % n)⟩ := by
    unfold pcAt
    rw [ht1, hlo1, ← round_yes hl (by omega) hn, hlater, withI_nat hlt]
  rw [hpc]
  by_cases h0 : takeN r k e = 0
  · refine .inl ⟨h0, ?_, fun y hy => ?_⟩
    · rw [if_pos h0, List.append_nil, h0, round_zero]
    · rw [if_pos h0, List.append_nil] at hy
      obtain ⟨c, hc, _, rfl⟩ := pcs_mem hy
      show (c : Int) < (e : Int)
      omega
  · refine .inr ⟨h0, pcsC n a r k e, roundN n (takeN r k e) ((a + sumTo r e) % n), round_lt _ _ _, ?_, rfl⟩
    rw [if_neg h0]
    unfold pcAt
    rw [hlo]
theorem pcsA_zero (n a : Nat) (r : Nat → Nat) : pcsA n a r 0 = [] := by
  rw [pcsA_eq]
  exact (pcsC_upto (e := 0) (Nat.zero_le _) fun i _ _ => by unfold takeN; omega).trans rfl
end Go.Proofs.Ytkgkanmccaodfaa

/-
  Windows, Room and Free of the program.
  Conditions: the slice reads as places; the numbers are small.
-/
set_option linter.unusedVariables false
namespace Go.Proofs.Ytkgkanmccaodfaa
open Go.RowKit Go.Sort

set_option maxRecDepth 100000 in
set_option maxHeartbeats 2000000 in
theorem winP_any (f : Int) (m : Nat) (v : Value) (l : List Pl) (c : Int) (w : World) (h : PlsAt w v l) (hL : LightL l) (hm : m < 4294967296) (hc : hasC m c = true) :
    Calls Try.prog 51 #[planA f m v, .int .i64 c] w (RetB (.int .u64 (winN (pcsOf l) c)) w) := by
  have hl : l.length ≤ 1000 := by have := hL.len; omega
  have HWN := Lib.hid (fun w h => windows_any f m v l w h hl hL.ok hm)
  have HHC := Lib.hid (fun W => hasCore_any f m v c W hm)
  rw [hc] at HHC
  obtain ⟨C, rfl⟩ : ∃ C : Nat, c = (C : Int) := ⟨c.toNat, by have := hasC_range hc; omega⟩
  have hC : C < 16 := by have := hasC_range hc; omega
  have hCz : (C : Int) < 16 := by omega
  have hC0 : (0 : Int) ≤ (C : Int) := by omega
  have HE := Lib.hid (show winF m (pcsOf l) C = winN (pcsOf l) (C : Int) from if_pos (by rw [← hasC_nat hC]; exact hc))
  have HH := Lib.hid h
  unfold planA at HWN HHC
  obtain ⟨w1, P, hw1, hP, hPl, hb1, hbox⟩ := box_any w #[.int .i64 f, .int .u32 m, v] 25
  have HB1 := Lib.hid hb1
  have HBOX := Lib.hid hbox
  obtain ⟨r0, r1, r2⟩ := three_heads hbox
  generalize winN (pcsOf l) (C : Int) = Y at *
  generalize hq : pcsOf l = q at *
  clear h hL hm hc hb1 hbox hq
  unfold planA
  go_enter Try.func51, Try.ntmps51
  go_wp2_with fail
  refine (HHC.out _).mono ?_
  rintro e w2 ⟨rfl, hb2⟩
  have HB2 := Lib.hid (HB1.out.trans (hb2.mono HB1.out.size))
  obtain ⟨q0, q1, q2⟩ := three_heads (keep_block HBOX.out hb2)
  clear hb2 r0 r1 r2 hw1 hP
  go_wp2_with fail
  refine (HWN.out _ (HH.out.keep HB2.out)).mono ?_
  rintro e w3 ⟨ap, rfl, _, hb3⟩
  have HB3 := Lib.hid (HB2.out.trans (hb3.mono HB2.out.size))
  obtain ⟨wd, R4, hwd, hNd, hNdl, hbd, had⟩ := box_any w3 (arrU fun _ => 0) 54
  rw [arrU_zero] at hwd
  have HAD := Lib.hid had
  have HBD := Lib.hid (HB3.out.trans (hbd.mono HB3.out.size))
  have HR4 := Lib.hid (show w.heap.size ≤ R4 by have := HB3.out.size; omega)
  obtain ⟨w4, hw4⟩ : ∃ w4, wd.setRow R4 (arrU (winF m q)) = w4 := ⟨_, rfl⟩
  have HAD4 : Hid (ArrU w4 R4 (winF m q)) := by rw [← hw4]; exact setRow_heap _ _ _ _ _ _ HAD.out
  have HB4 : Hid (Below w.heap.size w w4) := by rw [← hw4]; exact below_row HBD.out HR4.out _
  have a1 : w4.cell? ⟨R4, C, none⟩ = some (.int .u64 Y) := by rw [← HE.out]; exact HAD4.out.cell hC
  clear hb3 hbd had q0 q1 q2
  go_wp2_with (refine wpList_store_row rfl _ _ _ rfl R4 (arrU (winF m q)) rfl rfl 54 (arrU fun _ => 0) HAD.out (Try.sizeAU _) (by rw [arrU_size, arrU_size]) (arrU_one _) ?_)
  go_ret
  exact ⟨rfl, HB4.out⟩

theorem run_index_arrI (g : Nat → Int) (w : World) : ∀ k : Nat, k < 16 → (Instr.index 55 (.agg (arrI g)) (.int .i64 (k : Int))).run Try.prog w = .ok (.int .i64 (g k)) w
  | 0, _ => by kernel_rfl
  | 1, _ => by kernel_rfl
  | 2, _ => by kernel_rfl
  | 3, _ => by kernel_rfl
  | 4, _ => by kernel_rfl
  | 5, _ => by kernel_rfl
  | 6, _ => by kernel_rfl
  | 7, _ => by kernel_rfl
  | 8, _ => by kernel_rfl
  | 9, _ => by kernel_rfl
  | 10, _ => by kernel_rfl
  | 11, _ => by kernel_rfl
  | 12, _ => by kernel_rfl
  | 13, _ => by kernel_rfl
  | 14, _ => by kernel_rfl
  | 15, _ => by kernel_rfl
  | k + 16, h => absurd h (by omega)

set_option maxRecDepth 100000 in
set_option maxHeartbeats 2000000 in
theorem room_any (f : Int) (m : Nat) (v : Value) (l : List Pl) (c : Int) (w : World) (h : PlsAt w v l) (hL : LightL l) (hS : Shares l) (hm : m < 4294967296) (hf : 0 ≤ f) (hf2 : f ≤ 64) :
    Calls Try.prog 52 #[planA f m v, .int .i64 c] w (RetB (.int .i64 (roomN f m l c)) w) := by
  have HRM := Lib.hid (fun w h => rooms_any f m v l w h hL hS hm hf hf2)
  have HHC := Lib.hid (fun W => hasCore_any f m v c W hm)
  have HH := Lib.hid h
  unfold planA at HRM HHC
  obtain ⟨w1, P, hw1, hP, hPl, hb1, hbox⟩ := box_any w #[.int .i64 f, .int .u32 m, v] 25
  have HB1 := Lib.hid hb1
  have HBOX := Lib.hid hbox
  obtain ⟨r0, r1, r2⟩ := three_heads hbox
  clear h hL hS hm hb1 hbox
  unfold planA
  cases hh : hasC m c with
  | false =>
    rw [hh] at HHC
    have HE := Lib.hid (show roomN f m l c = 0 by unfold roomN; rw [hh]; rfl)
    clear hh
    go_enter Try.func52, Try.ntmps52
    go_wp2_with fail
    refine (HHC.out _).mono ?_
    rintro e w2 ⟨rfl, hb2⟩
    have HB2 := Lib.hid (HB1.out.trans (hb2.mono HB1.out.size))
    clear hb2
    go_wp2_with fail
    go_ret
    exact ⟨ret_int HE.out.symm, HB2.out⟩
  | true =>
    rw [hh] at HHC
    obtain ⟨C, rfl⟩ : ∃ C : Nat, c = (C : Int) := ⟨c.toNat, by have := hasC_range hh; omega⟩
    have hC : C < 16 := by have := hasC_range hh; omega
    have hCz : (C : Int) < 16 := by omega
    have hC0 : (0 : Int) ≤ (C : Int) := by omega
    obtain ⟨g, hg⟩ : ∃ g : Nat → Int, (fun i : Nat => roomN f m l (i : Int)) = g := ⟨_, rfl⟩
    have HE := Lib.hid (show g C = roomN f m l (C : Int) by rw [← hg])
    rw [hg] at HRM
    have hidx := fun w => run_index_arrI g w C hC
    clear hh hg
    go_enter Try.func52, Try.ntmps52
    go_wp2_with fail
    refine (HHC.out _).mono ?_
    rintro e w2 ⟨rfl, hb2⟩
    have HB2 := Lib.hid (HB1.out.trans (hb2.mono HB1.out.size))
    obtain ⟨q0, q1, q2⟩ := three_heads (keep_block HBOX.out hb2)
    clear hb2 r0 r1 r2 hw1 hP
    go_wp2_with fail
    refine (HRM.out _ (HH.out.keep HB2.out)).mono ?_
    rintro e w3 ⟨rfl, hb3⟩
    have HB3 := Lib.hid (HB2.out.trans (hb3.mono HB2.out.size))
    clear hb3 q0 q1 q2
    go_wp2_with fail
    go_ret
    exact ⟨ret_int HE.out, HB3.out⟩
end Go.Proofs.Ytkgkanmccaodfaa

/-
  rightCores, rightSplit and rightPlaces of the program.
  Conditions: the slices read as pieces, as places; the numbers are of their kinds.
-/
set_option linter.unusedVariables false
set_option linter.unusedSimpArgs false
namespace Go.Proofs.Ytkgkanmccaodfaa
open Go.RowKit Go.Sort

theorem rightCores_any (m : Nat) (w : World) : Calls Try.prog 45 #[.int .u32 m] w (Ret (.bool (decide (m ≠ 0 ∧ m < 65536))) w) := by
  by_cases h0 : m = 0
  · have e : decide (m ≠ 0 ∧ m < 65536) = false := decide_eq_false fun h => h.1 h0
    have h1 : ((m : Int) != 0) = false := by subst h0; rfl
    rw [e]
    clear e h0
    go_enter Try.func45, Try.ntmps45
    go_wp2
    go_ret
    exact ⟨rfl, rfl⟩
  · have h1 : ((m : Int) != 0) = true := by simpa using h0
    by_cases h2 : m < 65536
    · have e : decide (m ≠ 0 ∧ m < 65536) = true := decide_eq_true ⟨h0, h2⟩
      have h3 : (m : Int) < 65536 := by omega
      rw [e]
      clear e h0
      go_enter Try.func45, Try.ntmps45
      go_wp2
      go_ret
      exact ⟨rfl, rfl⟩
    · have e : decide (m ≠ 0 ∧ m < 65536) = false := decide_eq_false fun h => h2 h.2
      have h3 : decide ((m : Int) < 65536) = false := decide_eq_false (by omega)
      rw [e]
      clear e h0
      go_enter Try.func45, Try.ntmps45
      go_wp2
      go_ret
      exact ⟨rfl, rfl⟩

theorem free_nil (f : Int) (h : 0 ≤ f) (h2 : f ≤ 64) : allN (frN f) = freeN f [] := by
  refine eq_setP (allN_lt (frN_le f)) fun t ht => ?_
  rw [allN_bit]
  have e : decide (nAny [] t = 0) = true := decide_eq_true rfl
  rw [e, Bool.and_true]
  unfold frN
  by_cases h1 : (t : Int) < f
  · rw [decide_eq_true h1, decide_eq_true (by omega)]
  · rw [decide_eq_false h1, decide_eq_false (by omega)]
def lastC (q : List Pc) : Int := (q.getLast?.map Pc.c).getD (-1)
theorem lastC_next {q : List Pc} {k : Nat} {y : Pc} (hy : q[k]? = some y) : lastC (q.take (k + 1)) = y.c := last_at hy
theorem kept_next {f : Int} {q : List Pc} {k : Nat} {y : Pc} (hy : q[k]? = some y) (hyt : y.t < 18446744073709551616) (hk : Kept f (q.take k)) : lessN y.t (freeN f (q.take k)) = 0 ↔ Kept f (q.take (k + 1)) := by
  rw [fits_iff hyt hk, List.take_add_one, hy]
  rfl
theorem free_step {f : Int} {q : List Pc} {k : Nat} {y : Pc} (hy : q[k]? = some y) : lessN (freeN f (q.take k)) y.t = freeN f (q.take (k + 1)) := by
  rw [free_next, List.take_add_one, hy]
  rfl
theorem kept_take {f : Int} {q : List Pc} (h : Kept f q) (k : Nat) : Kept f (q.take k) := by
  rw [← List.take_append_drop k q] at h
  exact kept_prefix h

set_option maxRecDepth 100000 in
set_option maxHeartbeats 8000000 in
theorem rightSplit_any (f : Int) (m : Nat) (pv v : Value) (x : Pl) (w : World) (h : PcsAt w v x.ps) (hxo : PlOk x) (hl : x.ps.length ≤ 1000) (hm : m < 4294967296) (hf : 2 ≤ f) (hf2 : f ≤ 64) :
    Calls Try.prog 70 #[planA f m pv, plA v x] w (RetIff (SplitOk f m x) w) := by
  have HHC := Lib.hid (fun c W => hasCore_any f m pv c W hm)
  have HAL := Lib.hid (fun W => all_any f W)
  rw [free_nil f (by omega) hf2] at HAL
  have HYO := Lib.hid hxo.2.2.2
  have HH := Lib.hid h
  obtain ⟨A, d, rfl⟩ := h.form
  obtain ⟨xu, xs, xc, ps⟩ := x
  simp only at *
  obtain ⟨w1, P, hw1, hP, hPl, hb1, hbox⟩ := box_any w #[.int .i64 f, .int .u32 m, pv] 25
  obtain ⟨w2, X, hw2, hX, hXl, hb2, hxbox⟩ := box_any w1 #[.int .i64 xu, .int .i64 xs, .int .i64 xc, .slice A ps.length d] 38
  obtain ⟨n, hn⟩ : ∃ n, ps.length = n := ⟨_, rfl⟩
  rw [hn] at HH hl hw2 hxbox ⊢
  have HN := Lib.hid hn
  have HB2 := Lib.hid (hb1.trans (hb2.mono hb1.size))
  have HPB := Lib.hid (keep_block hbox hb2)
  have HXB := Lib.hid hxbox
  obtain ⟨p0, p1, p2⟩ := three_heads HPB.out
  obtain ⟨q0, q1, q2, q3⟩ := four_heads hxbox
  have mixed : Try.prog.follows .mixedOrders = true := by kernel_rfl
  unfold planA at HHC ⊢
  unfold plA
  clear h hxo hb1 hb2 hbox hxbox hn
  by_cases hxc : xc = 0
  · have hc0 : (xc != 0) = false := by simpa using hxc
    by_cases hn2 : n < 2
    · have hn3 : (n : Int) < 2 := by omega
      have HNO := Lib.hid (show ¬ SplitOk f m ⟨xu, xs, xc, ps⟩ from fun h => by have h2 : 2 ≤ ps.length := h.two; rw [HN.out] at h2; omega)
      clear hxc
      go_enter Try.func70, Try.ntmps70
      go_wp2_with fail
      go_ret
      exact RetIff.no HNO.out HB2.out
    · have hn3 : decide ((n : Int) < 2) = false := decide_eq_false (by omega)
      have hn4 : decide (n < 2) = false := decide_eq_false hn2
      have HXC := Lib.hid hxc
      have HN2 := Lib.hid (show 2 ≤ n by omega)
      clear hxc
      go_enter Try.func70, Try.ntmps70
      go_wp2_with (go_at_call 50; refine (HAL.out _).mono ?_; rintro e w' ⟨rfl, rfl⟩)
      clear hw1 hP hw2 hX p0 p1 p2 q0 q1 q2 q3
      go_loopg [5, 6, 8, 24] n (fun gg s5 s6 _ s24 wr => ∃ (k fr : Nat) (la : Int), k ≤ n ∧ gg = n - k ∧ s24 = .int .i64 k ∧ s5 = .int .i64 la ∧ s6 = .int .u64 fr ∧ Hid (la = lastC (ps.take k) ∧ fr = freeN f (ps.take k) ∧ Rise m (-1) (ps.take k) ∧ Kept f (ps.take k)) ∧ Below w2.heap.size w2 wr)
      case atStart => exact ⟨0, _, _, Nat.zero_le _, by omega, rfl, rfl, rfl, ⟨rfl, rfl, trivial, kept_nil f⟩, Below.refl _ _⟩
      case round =>
        obtain ⟨k, fr, la, hk, hg, rfl, rfl, rfl, HI, hbw⟩ := hrel
        have HG := Lib.hid hg
        have HBW := Lib.hid hbw
        have HPR := Lib.hid (keep_block HPB.out hbw)
        have HXR := Lib.hid (keep_block HXB.out hbw)
        have HB := Lib.hid (HB2.out.trans (hbw.mono HB2.out.size))
        have HPS := Lib.hid (HH.out.keep HB.out)
        have hfrl : fr < 18446744073709551616 := by rw [HI.2.1]; exact freeN_lt _ _
        obtain ⟨p0, p1, p2⟩ := three_heads HPR.out
        obtain ⟨q0, q1, q2, q3⟩ := four_heads HXR.out
        clear hg hbw
        by_cases hlt : k < n
        · have hltz : (k : Int) < (n : Int) := by omega
          have hk0 : (0 : Int) ≤ (k : Int) := by omega
          obtain ⟨y, hy⟩ := exP_at (xs := ps) (k := k) (by rw [HN.out]; exact hlt)
          obtain ⟨b, off, hA, hbl, _, c0, c1⟩ := HPS.out.at_ hy
          subst hA
          have HRN := Lib.hid (rise_next (m := m) hy)
          have hyt := (HYO.out y (List.mem_of_getElem? hy)).2
          have HKN := Lib.hid (kept_next (f := f) hy hyt HI.2.2.2)
          have HFN := Lib.hid (free_step (f := f) hy)
          have HLN := Lib.hid (lastC_next hy)
          obtain ⟨yc, yt⟩ := y
          simp only at c0 c1 HRN HKN HFN HLN hyt
          obtain ⟨w3, Y, hw3, hY, hYl, hb3, hyb⟩ := box_any wr #[.int .i64 yc, .int .u64 yt] 50
          have HB31 := Lib.hid (HBW.out.trans (hb3.mono HBW.out.size))
          have HB3 := Lib.hid (HB2.out.trans (HB31.out.mono HB2.out.size))
          have HP3 := Lib.hid (keep_block HPR.out hb3)
          have HX3 := Lib.hid (keep_block HXR.out hb3)
          have HYB := Lib.hid hyb
          have HCC := Lib.hid (fun W => HHC.out yc W)
          have HNK := Lib.hid (show SplitOk f m ⟨xu, xs, xc, ps⟩ → (hasC m yc = true ∧ lastC (ps.take k) < yc ∧ yt ≠ 0) ∧ Kept f (ps.take (k + 1)) from fun h => ⟨(HRN.out.1 (rise_take h.rise _)).2, kept_take h.kept _⟩)
          obtain ⟨y0, y1⟩ := two_heads hyb
          obtain ⟨v0, v1, v2⟩ := three_heads HP3.out
          clear hb3 hyb hy
          by_cases hle : yc ≤ la
          · have HNO := Lib.hid (show ¬ SplitOk f m ⟨xu, xs, xc, ps⟩ from fun h => by have := (HNK.out h).1.2.1; rw [← HI.1] at this; omega)
            go_wp2_with fail
            go_ret
            exact RetIff.no HNO.out HB3.out
          · have hle' : decide (yc ≤ la) = false := decide_eq_false hle
            cases hh : hasC m yc with
            | false =>
              rw [hh] at HCC
              have HNO := Lib.hid (show ¬ SplitOk f m ⟨xu, xs, xc, ps⟩ from fun h => by have := (HNK.out h).1.1; rw [hh] at this; cases this)
              clear hh
              go_wp2_with fail
              refine (HCC.out _).mono ?_
              rintro e w4 ⟨rfl, hb4⟩
              have HB4 := Lib.hid (HB3.out.trans (hb4.mono HB3.out.size))
              clear hb4
              go_wp2_with fail
              go_ret
              exact RetIff.no HNO.out HB4.out
            | true =>
              rw [hh] at HCC
              have HHH := Lib.hid hh
              clear hh
              by_cases hyz : yt = 0
              · have HNO := Lib.hid (show ¬ SplitOk f m ⟨xu, xs, xc, ps⟩ from fun h => (HNK.out h).1.2.2 hyz)
                have hy1 : ((yt : Int) == 0) = true := by subst hyz; rfl
                clear hyz
                go_wp2_with fail
                refine (HCC.out _).mono ?_
                rintro e w4 ⟨rfl, hb4⟩
                have HB4 := Lib.hid (HB3.out.trans (hb4.mono HB3.out.size))
                obtain ⟨u0, u1⟩ := two_heads (keep_block HYB.out hb4)
                clear hb4
                go_wp2_with fail
                go_ret
                exact RetIff.no HNO.out HB4.out
              · have hy1 : ((yt : Int) == 0) = false := by simpa using hyz
                have HYZ := Lib.hid hyz
                have ea := andNot_word yt fr hyt hfrl
                have eb := andNot_word fr yt hfrl hyt
                obtain ⟨Z, hZ⟩ : ∃ Z, lessN yt fr = Z := ⟨_, rfl⟩
                obtain ⟨F2, hF2⟩ : ∃ F2, lessN fr yt = F2 := ⟨_, rfl⟩
                rw [hZ] at ea
                rw [hF2] at eb
                have HZ := Lib.hid (show Z = 0 ↔ Kept f (ps.take (k + 1)) by rw [← hZ, HI.2.1]; exact HKN.out)
                have HF2 := Lib.hid (show F2 = freeN f (ps.take (k + 1)) by rw [← hF2, HI.2.1]; exact HFN.out)
                clear hyz hZ hF2
                by_cases hz : Z = 0
                · have hz1 : ((Z : Int) != 0) = false := by subst hz; rfl
                  have HIN : Hid (yc = lastC (ps.take (k + 1)) ∧ F2 = freeN f (ps.take (k + 1)) ∧ Rise m (-1) (ps.take (k + 1)) ∧ Kept f (ps.take (k + 1))) :=
                    ⟨HLN.out.symm, HF2.out, HRN.out.2 ⟨HI.2.2.1, HHH.out, by show lastC (ps.take k) < yc; rw [← HI.1]; omega, HYZ.out⟩, HZ.out.1 hz⟩
                  clear hz
                  go_wp2_with fail
                  refine (HCC.out _).mono ?_
                  rintro e w4 ⟨rfl, hb4⟩
                  have HB4 := Lib.hid (HB31.out.trans (hb4.mono HB31.out.size))
                  obtain ⟨u0, u1⟩ := two_heads (keep_block HYB.out hb4)
                  clear hb4 y0 y1 v0 v1 v2 p0 p1 p2 q0 q1 q2 q3 c0 c1 hw3
                  go_wp2_with fail
                  go_quiet (fail)
                  go_wp2_with fail
                  go_roundg (n - (k + 1))
                  case measure => have := HG.out; omega
                  case rel => exact ⟨k + 1, F2, yc, by omega, rfl, by go_num, rfl, rfl, HIN, below_drewN HB4.out _⟩
                · have hz1 : ((Z : Int) != 0) = true := by simpa using hz
                  have HNO := Lib.hid (show ¬ SplitOk f m ⟨xu, xs, xc, ps⟩ from fun h => hz (HZ.out.2 (HNK.out h).2))
                  clear hz
                  go_wp2_with fail
                  refine (HCC.out _).mono ?_
                  rintro e w4 ⟨rfl, hb4⟩
                  have HB4 := Lib.hid (HB3.out.trans (hb4.mono HB3.out.size))
                  obtain ⟨u0, u1⟩ := two_heads (keep_block HYB.out hb4)
                  clear hb4
                  go_wp2_with fail
                  go_ret
                  exact RetIff.no HNO.out HB4.out
        · have hltz : ¬ (k : Int) < (n : Int) := by omega
          have HE : Hid (fr = freeN f ps ∧ Rise m (-1) ps ∧ Kept f ps) := by
            have h := HI.2
            rw [List.take_of_length_le (by rw [HN.out]; omega)] at h
            exact h
          have HCN := Lib.hid (fun W => count_any fr W hfrl)
          have hc64 := cnt_le fr
          have HCE := Lib.hid (show (cnt fr : Int) + (sumTo (nAny ps) 64 : Int) = f by rw [HE.1]; exact free_cnt HE.2.2 (by omega) hf2)
          obtain ⟨c, hc⟩ : ∃ c, cnt fr = c := ⟨_, rfl⟩
          rw [hc] at HCN hc64 HCE
          have hw64 : IntKind.i64.wrap (f - (c : Int)) = f - (c : Int) := IntWalk.i64_in _ (by omega)
          have lP := heap_lt HPR.out
          clear hc
          obtain ⟨D, hD⟩ : ∃ D, f - (c : Int) = D := ⟨_, rfl⟩
          have HD := Lib.hid hD
          cases hde : (D == xs) with
          | true =>
            have HYE := Lib.hid (show SplitOk f m ⟨xu, xs, xc, ps⟩ from ⟨HXC.out, by show 2 ≤ ps.length; rw [HN.out]; exact HN2.out, HE.2.1, HE.2.2, by
              have h1 : D = xs := by simpa using hde
              have h2 := HCE.out
              show (sumTo (nAny ps) 64 : Int) = xs
              omega⟩)
            rw [← hD] at hde
            clear hD
            go_wp2_with fail
            refine wp_region_held_drew (S := fun w' => w'.cell? ⟨P, 0, none⟩ = some (.int .i64 f) ∧ w'.cell? ⟨X, 1, none⟩ = some (.int .i64 xs)) (by kernel_rfl) ?_ (fun hHeld => ?_)
            · exact ⟨p0, q1⟩
            refine wpAnyH_take (i := 0) (oi := ⟨some 56, _, _, _, _, _⟩) (v := ?_) rfl (by kernel_rfl) (by kernel_rfl) (by kernel_rfl) (fun _ _ _ h => h) (Or.inl ⟨by kernel_rfl, ?_⟩) (by assumption) ?_
            rotate_left
            · (intro w hSw; (try dsimp only at hSw); go_simp; try with_reducible rfl)
            (try simp only [Act.put, List.setIfInBounds_toArray, List.set_cons_zero, List.set_cons_succ])
            refine wpAnyH_take (i := 1) (oi := ⟨some 57, _, _, _, _, _⟩) (v := ?_) rfl (by kernel_rfl) (by kernel_rfl) (by kernel_rfl) (fun _ _ _ h => h) (Or.inl ⟨by kernel_rfl, ?_⟩) (by assumption) ?_
            rotate_left
            · (intro w hSw; (try dsimp only at hSw); go_simp; try with_reducible rfl)
            (try simp only [Act.put, List.setIfInBounds_toArray, List.set_cons_zero, List.set_cons_succ])
            refine wpAnyH_take (i := 2) (oi := ⟨some 58, _, _, _, _, _⟩) (v := ?_) rfl (by kernel_rfl) (by kernel_rfl) (by kernel_rfl) (fun _ _ _ h => h) (Or.inl ⟨by kernel_rfl, ?_⟩) (by assumption) ?_
            rotate_left
            · (intro w hSw; (try dsimp only at hSw); go_simp; try with_reducible rfl)
            (try simp only [Act.put, List.setIfInBounds_toArray, List.set_cons_zero, List.set_cons_succ])
            refine wpAnyH_take (i := 5) (oi := ⟨some 61, _, _, _, _, _⟩) (v := ?_) rfl (by kernel_rfl) (by kernel_rfl) (by kernel_rfl) (fun _ _ _ h => h) (Or.inl ⟨by kernel_rfl, ?_⟩) (by assumption) ?_
            rotate_left
            · (intro w hSw; (try dsimp only at hSw); go_simp; try with_reducible rfl)
            (try simp only [Act.put, List.setIfInBounds_toArray, List.set_cons_zero, List.set_cons_succ])
            refine wpAnyH_take (i := 6) (oi := ⟨some 62, _, _, _, _, _⟩) (v := ?_) rfl (by kernel_rfl) (by kernel_rfl) (by kernel_rfl) (fun _ _ _ h => h) (Or.inl ⟨by kernel_rfl, ?_⟩) (by assumption) ?_
            rotate_left
            · (intro w hSw; (try dsimp only at hSw); go_simp; try with_reducible rfl)
            (try simp only [Act.put, List.setIfInBounds_toArray, List.set_cons_zero, List.set_cons_succ])
            refine wpAnyH_ready (rs := [3]) (by kernel_rfl) (by simp) ?_
            refine AllReadyH.cons (o := ⟨some 59, _, _, _, _, _⟩) rfl (fun K hK => ?_) AllReadyH.nil
            rw [if_pos (by kernel_rfl)]
            go_simp
            go_at_call 74; refine (HCN.out _).mono ?_; rintro e wq ⟨rfl, rfl⟩
            refine hK.out _ _ ?_ (fun hHeld => ?_)
            · exact hHeld
            clear hK K
            (try simp only [Act.put, List.setIfInBounds_toArray, List.set_cons_zero, List.set_cons_succ])
            refine wpAnyH_take (i := 4) (oi := ⟨some 60, _, _, _, _, _⟩) (v := ?_) rfl (by kernel_rfl) (by kernel_rfl) (by kernel_rfl) (fun _ _ _ h => h) (Or.inl ⟨by kernel_rfl, ?_⟩) (by assumption) ?_
            rotate_left
            · (intro w hSw; (try dsimp only at hSw); go_simp; try with_reducible rfl)
            (try simp only [Act.put, List.setIfInBounds_toArray, List.set_cons_zero, List.set_cons_succ])
            refine wpAnyH_take (i := 7) (oi := ⟨some 63, _, _, _, _, _⟩) (v := ?_) rfl (by kernel_rfl) (by kernel_rfl) (by kernel_rfl) (fun _ _ _ h => h) (Or.inl ⟨by kernel_rfl, ?_⟩) (by assumption) ?_
            rotate_left
            · (intro w hSw; (try dsimp only at hSw); go_simp; try with_reducible rfl)
            (try simp only [Act.put, List.setIfInBounds_toArray, List.set_cons_zero, List.set_cons_succ])
            refine wpAnyH_take (i := 8) (oi := ⟨some 4, _, _, _, _, _⟩) (v := ?_) rfl (by kernel_rfl) (by kernel_rfl) (by kernel_rfl) (fun _ _ _ h => h) (Or.inl ⟨by kernel_rfl, ?_⟩) (by assumption) ?_
            rotate_left
            · (intro w hSw; (try dsimp only at hSw); go_simp; try with_reducible rfl)
            (try simp only [Act.put, List.setIfInBounds_toArray, List.set_cons_zero, List.set_cons_succ])
            refine wpAnyH_done (by kernel_rfl) ?_ _
            go_wp2_with fail
            go_ret
            exact RetIff.yes HYE.out HB.out.drew
          | false =>
            have HNO := Lib.hid (show ¬ SplitOk f m ⟨xu, xs, xc, ps⟩ from fun h => by
              have h1 : (sumTo (nAny ps) 64 : Int) = xs := h.all
              have h2 := HCE.out
              have h3 : D ≠ xs := by simpa using hde
              omega)
            rw [← hD] at hde
            clear hD
            go_wp2_with fail
            refine wp_region_held_drew (S := fun w' => w'.cell? ⟨P, 0, none⟩ = some (.int .i64 f) ∧ w'.cell? ⟨X, 1, none⟩ = some (.int .i64 xs)) (by kernel_rfl) ?_ (fun hHeld => ?_)
            · exact ⟨p0, q1⟩
            refine wpAnyH_take (i := 0) (oi := ⟨some 56, _, _, _, _, _⟩) (v := ?_) rfl (by kernel_rfl) (by kernel_rfl) (by kernel_rfl) (fun _ _ _ h => h) (Or.inl ⟨by kernel_rfl, ?_⟩) (by assumption) ?_
            rotate_left
            · (intro w hSw; (try dsimp only at hSw); go_simp; try with_reducible rfl)
            (try simp only [Act.put, List.setIfInBounds_toArray, List.set_cons_zero, List.set_cons_succ])
            refine wpAnyH_take (i := 1) (oi := ⟨some 57, _, _, _, _, _⟩) (v := ?_) rfl (by kernel_rfl) (by kernel_rfl) (by kernel_rfl) (fun _ _ _ h => h) (Or.inl ⟨by kernel_rfl, ?_⟩) (by assumption) ?_
            rotate_left
            · (intro w hSw; (try dsimp only at hSw); go_simp; try with_reducible rfl)
            (try simp only [Act.put, List.setIfInBounds_toArray, List.set_cons_zero, List.set_cons_succ])
            refine wpAnyH_take (i := 2) (oi := ⟨some 58, _, _, _, _, _⟩) (v := ?_) rfl (by kernel_rfl) (by kernel_rfl) (by kernel_rfl) (fun _ _ _ h => h) (Or.inl ⟨by kernel_rfl, ?_⟩) (by assumption) ?_
            rotate_left
            · (intro w hSw; (try dsimp only at hSw); go_simp; try with_reducible rfl)
            (try simp only [Act.put, List.setIfInBounds_toArray, List.set_cons_zero, List.set_cons_succ])
            refine wpAnyH_take (i := 5) (oi := ⟨some 61, _, _, _, _, _⟩) (v := ?_) rfl (by kernel_rfl) (by kernel_rfl) (by kernel_rfl) (fun _ _ _ h => h) (Or.inl ⟨by kernel_rfl, ?_⟩) (by assumption) ?_
            rotate_left
            · (intro w hSw; (try dsimp only at hSw); go_simp; try with_reducible rfl)
            (try simp only [Act.put, List.setIfInBounds_toArray, List.set_cons_zero, List.set_cons_succ])
            refine wpAnyH_take (i := 6) (oi := ⟨some 62, _, _, _, _, _⟩) (v := ?_) rfl (by kernel_rfl) (by kernel_rfl) (by kernel_rfl) (fun _ _ _ h => h) (Or.inl ⟨by kernel_rfl, ?_⟩) (by assumption) ?_
            rotate_left
            · (intro w hSw; (try dsimp only at hSw); go_simp; try with_reducible rfl)
            (try simp only [Act.put, List.setIfInBounds_toArray, List.set_cons_zero, List.set_cons_succ])
            refine wpAnyH_ready (rs := [3]) (by kernel_rfl) (by simp) ?_
            refine AllReadyH.cons (o := ⟨some 59, _, _, _, _, _⟩) rfl (fun K hK => ?_) AllReadyH.nil
            rw [if_pos (by kernel_rfl)]
            go_simp
            go_at_call 74; refine (HCN.out _).mono ?_; rintro e wq ⟨rfl, rfl⟩
            refine hK.out _ _ ?_ (fun hHeld => ?_)
            · exact hHeld
            clear hK K
            (try simp only [Act.put, List.setIfInBounds_toArray, List.set_cons_zero, List.set_cons_succ])
            refine wpAnyH_take (i := 4) (oi := ⟨some 60, _, _, _, _, _⟩) (v := ?_) rfl (by kernel_rfl) (by kernel_rfl) (by kernel_rfl) (fun _ _ _ h => h) (Or.inl ⟨by kernel_rfl, ?_⟩) (by assumption) ?_
            rotate_left
            · (intro w hSw; (try dsimp only at hSw); go_simp; try with_reducible rfl)
            (try simp only [Act.put, List.setIfInBounds_toArray, List.set_cons_zero, List.set_cons_succ])
            refine wpAnyH_take (i := 7) (oi := ⟨some 63, _, _, _, _, _⟩) (v := ?_) rfl (by kernel_rfl) (by kernel_rfl) (by kernel_rfl) (fun _ _ _ h => h) (Or.inl ⟨by kernel_rfl, ?_⟩) (by assumption) ?_
            rotate_left
            · (intro w hSw; (try dsimp only at hSw); go_simp; try with_reducible rfl)
            (try simp only [Act.put, List.setIfInBounds_toArray, List.set_cons_zero, List.set_cons_succ])
            refine wpAnyH_take (i := 8) (oi := ⟨some 4, _, _, _, _, _⟩) (v := ?_) rfl (by kernel_rfl) (by kernel_rfl) (by kernel_rfl) (fun _ _ _ h => h) (Or.inl ⟨by kernel_rfl, ?_⟩) (by assumption) ?_
            rotate_left
            · (intro w hSw; (try dsimp only at hSw); go_simp; try with_reducible rfl)
            (try simp only [Act.put, List.setIfInBounds_toArray, List.set_cons_zero, List.set_cons_succ])
            refine wpAnyH_done (by kernel_rfl) ?_ _
            go_wp2_with fail
            go_ret
            exact RetIff.no HNO.out HB.out.drew
  · have hc0 : (xc != 0) = true := by simpa using hxc
    have HNO := Lib.hid (show ¬ SplitOk f m ⟨xu, xs, xc, ps⟩ from fun h => hxc h.core)
    clear hxc
    go_enter Try.func70, Try.ntmps70
    go_wp2_with fail
    go_ret
    exact RetIff.no HNO.out HB2.out
end Go.Proofs.Ytkgkanmccaodfaa
