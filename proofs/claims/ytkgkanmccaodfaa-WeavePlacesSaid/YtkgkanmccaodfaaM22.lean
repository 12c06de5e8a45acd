/-
  The pieces of a woven unit, as the program makes them.
  Conditions: none.
-/
import Derived.Test.YtkgkanmccaodfaaM21
import Derived.Test.YtkgkanmccaodfaaM14
import Derived.Test.YtkgkanmccaodfaaM16

/-
  A want woven, in the document's words.
  Conditions: the slice reads as places; the plan is right; the want goes between the windows.
-/
set_option linter.unusedVariables false
set_option linter.unusedSimpArgs false
namespace Go.Proofs.Ytkgkanmccaodfaa
open Go.RowKit

theorem mk_masks (W : World) : (Instr.makeSlice 32 (.int .i64 16) (.int .i64 16)).run Try.prog W = .ok (.slice (some ⟨W.heap.size, 0, none⟩) 16 16) (W.alloc (.cells (Array.replicate 16 (.int .u64 0)) 48)) := by
  obtain ⟨i, hi, e⟩ := Option.map_eq_some_iff.1 Try.infoU64
  simp only [Prod.mk.injEq] at e
  obtain ⟨e1, e2, e3⟩ := e
  have hr := run_make (P := Try.prog) W 32 48 i (.int .u64 0) Try.underlying32 hi e1 .i64 .i64 16 16 (by omega) (Int.le_refl _) (by rw [e3]; omega) (by omega)
  rw [hr, e2]
  rw [show (Value.int .u64 0).cells = #[.int .u64 0] from rfl, madeCells_one]
  rfl
theorem rowU_zero {W : World} {K : Nat} (h : W.heap[K]? = some (.cells (Array.replicate 16 (.int .u64 0)) 48 (0, 0))) : RowU W K fun _ => 0 := ⟨_, h, fun i hi => by rw [Array.getElem?_replicate, if_pos hi]; rfl⟩
/-- What lies in the rows while a want is woven. -/
structure WvSt (w4 W : World) (h K : Nat) (st : WSt) : Prop where
  apart : Apart (fun b => b = h ∨ b = K) w4 W
  room : RowC W h fun i => ((st.r i : Nat) : Int)
  giv : RowU W K st.gv
def okW (gm : Nat → Nat) (st : WSt) (T j : Nat) : Bool := decide (st.r j ≠ 0) && (gm j).testBit T && decide (st.lack - 1 ≤ mostT gm (lessR st.r j) (T + 1))
theorem wvS_none {gm : Nat → Nat} {st : WSt} {T : Nat} (h : ∀ j, j < 16 → okW gm st T j = false) : wvS gm st T = st := by
  unfold wvS
  split
  · rfl
  · have : weaveC gm st.r T st.lack = none := by
      unfold weaveC
      rw [List.find?_range_eq_none]
      intro j hj
      have := h j hj
      unfold okW at this
      rw [this]
      rfl
    rw [this]
theorem wvS_zero {gm : Nat → Nat} {st : WSt} {T : Nat} (h : st.lack = 0) : wvS gm st T = st := by unfold wvS; rw [if_pos h]
theorem wvS_some {gm : Nat → Nat} {st : WSt} {T c : Nat} (h0 : st.lack ≠ 0) (hc : c < 16) (h : ∀ j, j < c → okW gm st T j = false) (h1 : okW gm st T c = true) :
    wvS gm st T = ⟨lessR st.r c, fun d => if d = c then withN (st.gv d) T else st.gv d, st.lack - 1⟩ := by
  unfold wvS
  have : weaveC gm st.r T st.lack = some c := by
    unfold weaveC
    rw [List.find?_range_eq_some]
    refine ⟨h1, List.mem_range.2 hc, fun j hj => ?_⟩
    have := h j hj
    unfold okW at this
    rw [this]
    rfl
  rw [if_neg h0, this]

theorem wv_room (gm r : Nat → Nat) (s : Nat) : ∀ (t c : Nat), (wvT gm r s t).r c ≤ r c
  | 0, c => Nat.le_refl _
  | t + 1, c => by
    have ih := wv_room gm r s t c
    show (wvS gm (wvT gm r s t) t).r c ≤ r c
    unfold wvS
    split
    · exact ih
    · split
      · exact ih
      · show lessR _ _ c ≤ _
        unfold lessR
        split <;> omega
theorem wv_lt (gm r : Nat → Nat) (s : Nat) : ∀ (t c : Nat), t ≤ 64 → (wvT gm r s t).gv c < 18446744073709551616
  | 0, c, _ => by show 0 < 18446744073709551616; decide
  | t + 1, c, ht => by
    have ih := wv_lt gm r s t c (by omega)
    show (wvS gm (wvT gm r s t) t).gv c < _
    unfold wvS
    split
    · exact ih
    · split
      · exact ih
      · rename_i d _
        show (if c = d then withN ((wvT gm r s t).gv c) t else (wvT gm r s t).gv c) < _
        split
        · exact withN_lt ih (by omega)
        · exact ih
theorem wv_lack (gm r : Nat → Nat) (s : Nat) : ∀ t : Nat, (wvT gm r s t).lack ≤ s
  | 0 => Nat.le_refl _
  | t + 1 => by
    have ih := wv_lack gm r s t
    show (wvS gm (wvT gm r s t) t).lack ≤ s
    unfold wvS
    split
    · exact ih
    · split
      · exact ih
      · show _ - 1 ≤ _
        omega

theorem wp_append_ownW {P : Program} {o : Oper} {a : Act} {w : World} {K : Act → World → Prop} {Q : Exit → Act → World → Prop} (s x : Operand) (t : TypeId)
    (ho : o.op = .call { callee := .builtin .append, args := #[s, x], argTypes := #[t, t] })
    (base : Nat) (e : TypeId) (i : TypeInfo) (z : Value) (size bytes : Nat) (ht : P.underlying t = some (.slice e)) (hi : P.info? e = some i) (hz : i.zero = some z)
    (hsize : i.size = size) (hby : i.bytes = bytes) (hzs : z.cells.size = size) (hsz : 0 < size)
    (v : Value) (n : Nat) (xs : List Value) (hs : a.eval s = v) (hown : w.ownsRow base e size v n xs)
    (ad : Addr) (m c : Nat) (news : List Value) (hx : a.eval x = .slice (some ad) m c) (hl : news.length = m * size) (hnews : ∀ j u, news[j]? = some u → w.cell? (ad.add j) = some u) (h1 : ∀ u ∈ news, u.oneCell' = true)
    (h63 : n + m ≤ maxLen) (hbytes : (n + m) * bytes ≤ 140737488355328) (hbase : base ≤ w.heap.size)
    (h : ∀ v' w', w'.ownsRow base e size v' (n + m) (xs ++ news) → w.grownBy w' v.ownBlock → (v' = .slice none 0 0 ↔ v = .slice none 0 0 ∧ m = 0) → (v'.ownBlock = v.ownBlock ∨ v'.ownBlock = some w.heap.size) → K (a.put o.dst v') w') : o.wp P a w K Q := by
  obtain ⟨v', w', hr, h2, h3, h4, h5⟩ := run_append_own_at (P := P) w base t o.type e i z size bytes ht hi hz hsize hby hzs hsz v n xs hown ad m c news hl hnews h1 h63 hbytes hbase
  unfold Oper.wp execOp
  simp only [ho, resolve, invoke, builtin, Sem.run_bind, Sem.run_pure, Result.andThen_ok, List.map_toArray, List.map_cons, List.map_nil, hs, hx, hr]
  exact h v' w' h2 h3 h4 h5
/-- What lies beside the rows while the pieces are told. -/
structure PkSt (X B : Nat) (u s : Int) (W wr : World) (v : Value) (ps : List Pc) : Prop where
  ap : Below W.heap.size W wr
  x : wr.heap[X]? = some (.cells #[.int .i64 u, .int .i64 s, .int .i64 0, v] 38 (0, 0))
  own : wr.ownsRow B 50 2 v ps.length (pcsCells ps)
  sz : B ≤ wr.heap.size
theorem PkSt.more {X B : Nat} {u s : Int} {W wr wA : World} {v v2 : Value} {q : List Pc} {y : Pc} (h : PkSt X B u s W wr v q) (ha : Apart (fun b => v.ownBlock = some b) wr wA)
    (hown : wA.ownsRow B 50 2 v2 (q.length + 1) (pcsCells q ++ [.int .i64 y.c, .int .u64 y.t])) (hl : W.heap.size ≤ X ∧ X < B) : PkSt X B u s W (wA.setCell ⟨X, 3, none⟩ v2) v2 (q ++ [y]) := by
  have hne : ∀ b, b ≤ X → ¬ v.ownBlock = some b := fun b hb e => by have := own_base5 h.own b e; omega
  have hx := (ha.block X (heap_lt h.x) (hne X (Nat.le_refl _))).trans h.x
  have h1 : Below W.heap.size W wA := h.ap.trans (ha.below h.ap.size fun k hk => hne k (by omega))
  refine ⟨?_, heap_setCell_mem _ _ _ _ _ _ _ hx, ?_, by have := h.sz; have := ha.size; simp [World.setCell]; omega⟩
  · exact ((Apart.refl (fun b => b = X) wA).set (p := ⟨X, 3, none⟩) (.inl rfl) v2).below (B := W.heap.size) h1.size (fun k hk e => by omega) |> h1.trans
  · rw [List.length_append, List.length_singleton, show pcsCells (q ++ [y]) = pcsCells q ++ [.int .i64 y.c, .int .u64 y.t] by simp [pcsCells, pcCells]]
    exact own_keep hown fun k hk => heap_other wA _ (by have := own_base5 hown k hk; omega)

set_option maxRecDepth 100000 in
set_option maxHeartbeats 16000000 in
theorem refPlace21_any (f : Int) (m : Nat) (v : Value) (l : List Pl) (u s : Int) (w : World) (h : PlsAt w v l) (hL : LightL l) (hr : Right f m l) (hs : 1 ≤ s) (hs64 : s ≤ 64) :
    Calls Try.prog 18 #[planA f m v, .agg #[.int .i64 u, .int .i64 s]] w (fun e w' => ∃ A c n, e = .returned (.agg #[.int .i64 u, .int .i64 s, .int .i64 0, .slice A n c]) ∧ PcsAt w' (.slice A n c) (mkP (wovenS f m l s).gv 16) ∧ Below w.heap.size w w') := by
  have mixed : Try.prog.follows .mixedOrders = true := by kernel_rfl
  have hm := hr.m16
  have HGA := Lib.hid (fun W h => refGaps_any f m v l W h hL hr)
  have HRO := Lib.hid (fun W h => refRooms21_any f m v l W h hL hr)
  have HRC : Hid (∀ (W : World) (g : Nat), RowC W g (fun i => roomN f m l (i : Int)) → RowC W g (fun i => ((rmN f m l i : Nat) : Int))) := Lib.hid (fun W g h => h.congr fun i hi => (hr.rm hi).1.symm)
  obtain ⟨gm, hgm⟩ : ∃ gm, gapT f m l = gm := ⟨_, rfl⟩
  obtain ⟨rr, hrr⟩ : ∃ rr, rmN f m l = rr := ⟨_, rfl⟩
  have HGL : Hid (∀ c, gm c < 18446744073709551616) := Lib.hid (fun c => by rw [← hgm]; exact gap_lt f m l c)
  have HRL : Hid (∀ c, c < 16 → rr c ≤ 64) := Lib.hid (fun c hc => by have := (hr.rm hc).2.1; have := hr.f64; rw [← hrr]; omega)
  obtain ⟨F, hF⟩ : ∃ F : Nat, f.toNat = F := ⟨_, rfl⟩
  have hfF : f = (F : Int) := by have := hr.f2; omega
  have hF64 : F ≤ 64 := by have := hr.f64; omega
  obtain ⟨S, hS⟩ : ∃ S : Nat, s.toNat = S := ⟨_, rfl⟩
  have hsS : s = (S : Int) := by omega
  have HWV : Hid ((wovenS f m l s) = wvT gm rr S F) := Lib.hid (by unfold wovenS; rw [hgm, hrr, hF, hS])
  have HMO := Lib.hid (fun (r : Nat → Nat) (hr : ∀ c, c < 16 → r c ≤ 64) (k : Nat) (hk : k ≤ 64) (g h c1 c2 : Nat) (h1 : 16 ≤ c1) (h2 : 16 ≤ c2) W hG hR => refMost_any gm r g h c1 c2 h1 h2 (fun c _ => HGL.out c) hr k hk W hG hR)
  rw [hgm] at HGA
  rw [hrr] at HRC
  rw [HWV.out]
  have HH := Lib.hid h
  have HSS : Hid (S ≤ 64) := Lib.hid (by omega)
  clear hgm hrr hF hS
  subst hfF
  subst hsS
  unfold planA at HGA HRO
  obtain ⟨w1, P, hw1, hP, hPl, hb1, hbox⟩ := box_any w #[.int .i64 (F : Int), .int .u32 m, v] 25
  obtain ⟨w2, Q, hw2, hQ, hQl, hb2, hqox⟩ := box_any w1 #[.int .i64 u, .int .i64 (S : Int)] 35
  obtain ⟨w3, R, hw3, hR, hRl, hb3, hrox⟩ := box_any w2 #[.int .i64 0, .int .i64 0, .int .i64 0, .slice none 0 0] 38
  have hb23 := hb2.trans (hb3.mono hb2.size)
  have HB3 := Lib.hid (hb1.trans (hb23.mono hb1.size))
  have HPB := Lib.hid (keep_block hbox hb23)
  have HQB := Lib.hid (keep_block hqox hb3)
  have HRB := Lib.hid hrox
  have HPL : Hid (∀ W : World, Below w3.heap.size w3 W → PlsAt W v l) := Lib.hid (fun W hk => HH.out.keep (HB3.out.trans (hk.mono HB3.out.size)))
  obtain ⟨r0, r1, r2⟩ := three_heads HPB.out
  unfold planA
  have HPQ : Hid (P < w3.heap.size ∧ Q < w3.heap.size ∧ R < w3.heap.size ∧ w.heap.size ≤ R ∧ w.heap.size ≤ w3.heap.size) := Lib.hid ⟨heap_lt HPB.out, heap_lt HQB.out, hRl, by have := hb1.size; have := hb2.size; omega, HB3.out.size⟩
  clear h hb1 hb2 hb3 hb23 hbox hqox hrox hL hr hm hPl hQl hRl
  go_enter Try.func18, Try.ntmps18
  go_wp2_with fail
  refine (HGA.out w3 (HPL.out _ (Below.refl _ _))).mono ?_
  rintro e wa ⟨v7, rfl, hown7, hba⟩
  obtain ⟨g, c7, rfl, hgb, hc7, hrow7⟩ := rowU_of_own hown7
  have HKA := Lib.hid hba
  have HG7 := Lib.hid hrow7
  have HC7 := Lib.hid hc7
  have HGB := Lib.hid (show w3.heap.size ≤ g ∧ g < wa.heap.size from ⟨hgb, hrow7.lt⟩)
  obtain ⟨r0, r1, r2⟩ := three_heads (keep_block HPB.out HKA.out)
  clear hown7 hba hgb hc7 hrow7 hw1 hw2 hw3 hP hQ hR
  go_wp2_with fail
  refine (HRO.out wa (HPL.out _ HKA.out)).mono ?_
  rintro e wb ⟨v8, rfl, hown8, hbb⟩
  obtain ⟨h, c8, rfl, hhb, hc8, hrow8⟩ := rowC_of_own16 hown8
  have HKB := Lib.hid (HKA.out.trans (hbb.mono HKA.out.size))
  have HG8 := Lib.hid (HG7.out.keep hbb)
  have HR8 := Lib.hid (HRC.out _ _ hrow8)
  have HC8 := Lib.hid hc8
  have HHB := Lib.hid (show wa.heap.size ≤ h ∧ h < wb.heap.size from ⟨hhb, hrow8.lt⟩)
  obtain ⟨w4, K, hw4, hK, hKl, hb4, hkox⟩ := box_any wb (Array.replicate 16 (.int .u64 0)) 48
  have hmk : (Instr.makeSlice 32 (.int .i64 16) (.int .i64 16)).run Try.prog wb = .ok (.slice (some ⟨K, 0, none⟩) 16 16) w4 := by
    have h := mk_masks wb
    rw [hw4, hK] at h
    exact h
  have HK4 := Lib.hid (HKB.out.trans (hb4.mono HKB.out.size))
  have HG4 := Lib.hid (HG8.out.keep hb4)
  have HR4 := Lib.hid (HR8.out.keep hb4)
  have HU4 := Lib.hid (rowU_zero hkox)
  have HNE : Hid (P < g ∧ Q < g ∧ R < g ∧ g < h ∧ h < K ∧ w.heap.size ≤ h ∧ g < w4.heap.size) := Lib.hid (by have h1 := HGB.out; have h2 := HHB.out; have h3 := HPQ.out; have h4 := HK4.out.size; have h5 := HKB.out.size; have h6 := HKA.out.size; refine ⟨by omega, by omega, by omega, by omega, by omega, by omega, by omega⟩)
  have HSA : Hid (∀ W : World, Apart (fun b => b = h ∨ b = K) w4 W → W.cell? ⟨P, 0, none⟩ = some (.int .i64 (F : Int)) ∧ W.cell? ⟨Q, 0, none⟩ = some (.int .i64 u) ∧ W.cell? ⟨Q, 1, none⟩ = some (.int .i64 (S : Int)) ∧ RowU W g gm ∧ W.heap[R]? = some (.cells #[.int .i64 0, .int .i64 0, .int .i64 0, .slice none 0 0] 38 (0, 0))) := Lib.hid (fun W ha => by
    have hn := HNE.out
    have key : ∀ (B : Nat) (o : Obj), w4.heap[B]? = some o → B ≤ g → W.heap[B]? = some o := fun B o ho hB => (ha.block B (heap_lt ho) (by omega)).trans ho
    obtain ⟨a, b, c⟩ := three_heads (key P _ (keep_block HPB.out HK4.out) (by omega))
    obtain ⟨d, e⟩ := two_heads (key Q _ (keep_block HQB.out HK4.out) (by omega))
    exact ⟨a, d, e, HG4.out.same (ha.block g HG4.out.lt (by omega)), key R _ (keep_block HRB.out HK4.out) (by omega)⟩)
  have HST : Hid (WvSt w4 w4 h K (wvT gm rr S 0)) := Lib.hid ⟨Apart.refl _ _, HR4.out, HU4.out⟩
  obtain ⟨q0, q1⟩ := two_heads (keep_block HQB.out HKB.out)
  obtain ⟨_, q0', q1', _, _⟩ := HSA.out w4 (Apart.refl _ _)
  clear hown8 hbb hhb hc8 hrow8 r0 r1 r2 hw4 hK hb4 hkox
  go_wp2_with fail
  clear q0 q1 q0' q1' hmk
  have HW0 := Lib.hid (show (wvT gm rr S 0).lack = S from rfl)
  go_loopg [8, 9] F (fun gg s8 s9 wr => ∃ T : Nat, T ≤ F ∧ gg = F - T ∧ s8 = .int .i64 ((wvT gm rr S T).lack : Nat) ∧ s9 = .int .i64 T ∧ WvSt w4 wr h K (wvT gm rr S T))
  case atStart => exact ⟨0, Nat.zero_le _, rfl, by rw [HW0.out], rfl, HST.out⟩
  case round =>
    obtain ⟨T, hT, hgg, rfl, rfl, hst⟩ := hrel
    have HG := Lib.hid hgg
    have HNX : Hid (wvT gm rr S (T + 1) = wvS gm (wvT gm rr S T) T) := Lib.hid rfl
    have HRL2 : Hid (∀ c, c < 16 → (wvT gm rr S T).r c ≤ 64) := Lib.hid (fun c hc => Nat.le_trans (wv_room gm rr S T c) (HRL.out c hc))
    have HGVL : Hid (∀ c, (wvT gm rr S T).gv c < 18446744073709551616) := Lib.hid (fun c => wv_lt gm rr S T c (by omega))
    have HLK : Hid ((wvT gm rr S T).lack ≤ 64) := Lib.hid (Nat.le_trans (wv_lack gm rr S T) HSS.out)
    clear hgg
    obtain ⟨r0, _, _, _, _⟩ := HSA.out wr hst.apart
    by_cases hlt : T < F
    · have hTz : (T : Int) < (F : Int) := by omega
      have hT0 : (0 : Int) ≤ (T : Int) := by omega
      have hT64 : T < 64 := by omega
      generalize wvT gm rr S T = st at *
      have HST1 := Lib.hid hst
      clear hst
      obtain ⟨wo, hwo⟩ : ∃ wo, wo = wr := ⟨_, rfl⟩
      subst hwo
      go_wp2_with fail
      clear r0
      obtain ⟨L, hLL⟩ : ∃ L : Nat, st.lack = L := ⟨_, rfl⟩
      have HLL := Lib.hid hLL
      rw [hLL]
      rw [hLL] at HLK
      clear hLL
      go_loopg [8, 10] 16 (fun gg s8 s10 w' => ∃ c : Nat, c ≤ 16 ∧ gg = 16 - c ∧ s8 = .int .i64 (L : Nat) ∧ s10 = .int .i64 c ∧ Hid (∀ j, j < c → okW gm st T j = false) ∧ Hid (WvSt w4 w' h K st))
      case atStart => exact ⟨0, Nat.zero_le _, rfl, rfl, rfl, Lib.hid (fun j hj => absurd hj (Nat.not_lt_zero _)), HST1⟩
      case round =>
        obtain ⟨c, hc, hgg, rfl, rfl, HJ, HS⟩ := hrel
        have HG2 := Lib.hid hgg
        clear hgg
        by_cases hcl : c < 16 ∧ 0 < L
        · obtain ⟨hc16, hL0⟩ := hcl
          have hcz : (c : Int) < 16 := by omega
          have hc0 : (0 : Int) ≤ (c : Int) := by omega
          have hLz : (0 : Int) < (L : Int) := by omega
          have hLd : decide (0 < L) = true := decide_eq_true hL0
          obtain ⟨_, _, _, hgr, _⟩ := HSA.out wr HS.out.apart
          have HGR := Lib.hid hgr
          have t0 := HS.out.room.cell hc16
          have t1 := hgr.cell hc16
          obtain ⟨rc, hrc⟩ : ∃ rc, st.r c = rc := ⟨_, rfl⟩
          obtain ⟨gc, hgc⟩ : ∃ gc, gm c = gc := ⟨_, rfl⟩
          have HRCE := Lib.hid hrc
          have HGCE := Lib.hid hgc
          have HHS := Lib.hid (fun W => refHas_any gc (T : Int) W (by rw [← hgc]; exact HGL.out c))
          rw [hasB_nat hT64] at HHS
          rw [hrc] at t0
          rw [hgc] at t1
          have HRC64 : Hid (rc ≤ 64) := Lib.hid (by rw [← hrc]; exact HRL2.out c hc16)
          clear hrc hgc hgr
          by_cases hz : rc = 0
          · subst hz
            have HJN : Hid (∀ j, j < c + 1 → okW gm st T j = false) := Lib.hid (fun j hj => by
              by_cases e : j = c
              · rw [e]; unfold okW; rw [HRCE.out]; rfl
              · exact HJ.out j (by omega))
            go_wp2_with fail
            go_roundg (16 - (c + 1))
            case measure => have := HG2.out; omega
            case rel => exact ⟨c + 1, by omega, rfl, rfl, by go_num, HJN, HS⟩
          · have hzb : ((rc : Int) == 0) = false := by simp; exact hz
            obtain ⟨b, hb⟩ : ∃ b, gc.testBit T = b := ⟨_, rfl⟩
            have HBT := Lib.hid hb
            rw [hb] at HHS
            clear hb
            cases b with
            | false =>
              have HJN : Hid (∀ j, j < c + 1 → okW gm st T j = false) := Lib.hid (fun j hj => by
                by_cases e : j = c
                · rw [e]; unfold okW; rw [HGCE.out, HBT.out, Bool.and_false]; rfl
                · exact HJ.out j (by omega))
              go_wp2_with (go_at_call 30; refine (HHS.out _).mono ?_; rintro e w' ⟨rfl, rfl⟩)
              go_roundg (16 - (c + 1))
              case measure => have := HG2.out; omega
              case rel => exact ⟨c + 1, by omega, rfl, rfl, by go_num, HJN, HS⟩
            | true =>
              obtain ⟨R1, hR1⟩ : ∃ R1, rc = R1 + 1 := ⟨rc - 1, by omega⟩
              have hw1 : IntKind.i64.wrap ((rc : Int) - 1) = (R1 : Int) := by have := HRC64.out; rw [IntKind.wrap_i64, show (rc : Int) - 1 = (R1 : Int) by omega]; omega
              have hw2 : IntKind.i64.wrap ((R1 : Int) + 1) = (rc : Int) := by have := HRC64.out; rw [IntKind.wrap_i64, show (R1 : Int) + 1 = (rc : Int) by omega]; omega
              obtain ⟨L1, hL1⟩ : ∃ L1, L = L1 + 1 := ⟨L - 1, by omega⟩
              have hw3 : IntKind.i64.wrap ((L : Int) - 1) = (L1 : Int) := by have := HLK.out; rw [IntKind.wrap_i64, show (L : Int) - 1 = (L1 : Int) by omega]; omega
              have HR1 := Lib.hid hR1
              have HL1 := Lib.hid hL1
              have HRW : Hid (RowC (wr.setCell ⟨h, c, none⟩ (.int .i64 (R1 : Int))) h fun i => ((lessR st.r c i : Nat) : Int)) := Lib.hid ((HS.out.room.set c (R1 : Int)).congr fun i hi => by
                unfold lessR
                by_cases e : i = c
                · subst e
                  rw [if_pos rfl, if_pos rfl, HRCE.out, HR1.out]
                  rfl
                · rw [if_neg e, if_neg e])
              have f0 := HS.out.room.frozen c
              clear hR1 hL1 hz
              go_wp2_with (go_at_call 30; refine (HHS.out _).mono ?_; rintro e w' ⟨rfl, rfl⟩)
              obtain ⟨w5, hw5⟩ : ∃ w5, wr.setCell ⟨h, c, none⟩ (.int .i64 (R1 : Int)) = w5 := ⟨_, rfl⟩
              have HA5 : Hid (Apart (fun b => b = h ∨ b = K) w4 w5) := Lib.hid (by rw [← hw5]; exact HS.out.apart.set (.inl (.inl rfl)) _)
              have HU5 : Hid (RowU w5 K st.gv) := Lib.hid (by rw [← hw5]; exact HS.out.giv.same (Below.heap_setCell wr _ _ K (by show K ≠ h; have := HNE.out; omega)))
              rw [hw5] at HRW ⊢
              obtain ⟨_, _, _, hg5, _⟩ := HSA.out w5 HA5.out
              have HM5 := Lib.hid (HMO.out (lessR st.r c) (fun i hi => Nat.le_trans (by unfold lessR; split <;> omega) (HRL2.out i hi)) (T + 1) (by omega) g h c7 c8 HC7.out HC8.out w5 hg5 HRW.out)
              rw [Int.natCast_succ] at HM5
              obtain ⟨M, hM⟩ : ∃ M, mostT gm (lessR st.r c) (T + 1) = M := ⟨_, rfl⟩
              rw [hM] at HM5
              have HM := Lib.hid hM
              clear hM hg5 hw5 t0 t1 f0
              refine HM5.out.mono ?_
              rintro e w6 ⟨rfl, hb6⟩
              have HA6 := Lib.hid (HA5.out.trans (Apart.of_below (F := fun b => b = h ∨ b = K) hb6) fun _ _ e => e)
              have HU6 := Lib.hid (HU5.out.keep hb6)
              have HR6 := Lib.hid (HRW.out.keep hb6)
              clear hb6
              by_cases hle : L1 ≤ M
              · have hd : decide ((L1 : Int) ≤ (M : Int)) = true := decide_eq_true (by omega)
                have hd2 : decide (L1 ≤ M) = true := decide_eq_true hle
                have HSOME : Hid (wvT gm rr S (T + 1) = ⟨lessR st.r c, fun d => if d = c then withN (st.gv d) T else st.gv d, L1⟩) := Lib.hid (by
                  rw [HNX.out, wvS_some (c := c) (by rw [HLL.out]; omega) hc16 HJ.out (by
                    unfold okW
                    rw [HRCE.out, HGCE.out, HBT.out, HM.out, HLL.out, decide_eq_true (show rc ≠ 0 by have := HR1.out; omega), decide_eq_true (show L - 1 ≤ M by have := HL1.out; omega)]
                    rfl), HLL.out]
                  have := HL1.out
                  rw [show L - 1 = L1 by omega])
                have u0 := HU6.out.cell hc16
                have u1 := HU6.out.frozen c
                obtain ⟨y, hy⟩ : ∃ y, st.gv c = y := ⟨_, rfl⟩
                have hyl : y < 18446744073709551616 := by rw [← hy]; exact HGVL.out c
                have HWI := Lib.hid (fun W => with_any y (T : Int) W hyl)
                rw [withI_nat hT64] at HWI
                obtain ⟨y', hy'⟩ : ∃ y', withN y T = y' := ⟨_, rfl⟩
                rw [hy'] at HWI
                have HUN : Hid (RowU (w6.setCell ⟨K, c, none⟩ (.int .u64 (y' : Int))) K fun d => if d = c then withN (st.gv d) T else st.gv d) := Lib.hid ((HU6.out.set c y').congr fun i _ => by
                  by_cases e : i = c
                  · subst e
                    rw [if_pos rfl, if_pos rfl, hy, hy']
                  · rw [if_neg e, if_neg e])
                have HRN : Hid (RowC (w6.setCell ⟨K, c, none⟩ (.int .u64 (y' : Int))) h fun i => ((lessR st.r c i : Nat) : Int)) := Lib.hid (HR6.out.same (Below.heap_setCell w6 _ _ h (by show h ≠ K; have := HNE.out; omega)))
                have HAN := Lib.hid (HA6.out.set (p := ⟨K, c, none⟩) (.inl (.inr rfl)) (.int .u64 (y' : Int)))
                rw [hy] at u0
                clear hy hy' hyl hle
                go_wp2_with (go_at_call 31; refine (HWI.out _).mono ?_; rintro e w' ⟨rfl, rfl⟩)
                go_roundg (F - (T + 1))
                case measure => have := HG.out; omega
                case rel => exact ⟨T + 1, by omega, rfl, by rw [HSOME.out], by go_num, by rw [HSOME.out]; exact ⟨HAN.out, HRN.out, HUN.out⟩⟩
              · have hd : decide ((L1 : Int) ≤ (M : Int)) = false := decide_eq_false (by omega)
                have hd2 : decide (L1 ≤ M) = false := decide_eq_false hle
                have HJN : Hid (∀ j, j < c + 1 → okW gm st T j = false) := Lib.hid (fun j hj => by
                  by_cases e : j = c
                  · rw [e]
                    unfold okW
                    rw [HM.out, HLL.out, decide_eq_false (show ¬ L - 1 ≤ M by have := HL1.out; omega), Bool.and_false]
                  · exact HJ.out j (by omega))
                have u0 := HR6.out.cell hc16
                have u1 := HR6.out.frozen c
                have e1 : lessR st.r c c = R1 := by unfold lessR; rw [if_pos rfl, HRCE.out, HR1.out]; rfl
                rw [e1] at u0
                have HRN : Hid (RowC (w6.setCell ⟨h, c, none⟩ (.int .i64 (rc : Int))) h fun i => ((st.r i : Nat) : Int)) := Lib.hid ((HR6.out.set c (rc : Int)).congr fun i _ => by
                  by_cases e : i = c
                  · subst e
                    rw [if_pos rfl, HRCE.out]
                  · rw [if_neg e]
                    unfold lessR
                    rw [if_neg e])
                have HUN : Hid (RowU (w6.setCell ⟨h, c, none⟩ (.int .i64 (rc : Int))) K st.gv) := Lib.hid (HU6.out.same (Below.heap_setCell w6 _ _ K (by show K ≠ h; have := HNE.out; omega)))
                have HAN := Lib.hid (HA6.out.set (p := ⟨h, c, none⟩) (.inl (.inl rfl)) (.int .i64 (rc : Int)))
                clear e1 hle
                go_wp2_with fail
                go_roundg (16 - (c + 1))
                case measure => have := HG2.out; omega
                case rel => exact ⟨c + 1, by omega, rfl, rfl, by go_num, HJN, Lib.hid ⟨HAN.out, HRN.out, HUN.out⟩⟩
        · have HEQ : Hid (wvT gm rr S (T + 1) = st) := Lib.hid (by
            rw [HNX.out]
            by_cases h0 : 0 < L
            · exact wvS_none fun j hj => HJ.out j (by omega)
            · exact wvS_zero (by rw [HLL.out]; omega))
          have hd : (decide ((c : Int) < 16) && decide ((0 : Int) < (L : Int))) = false := by
            rw [Bool.and_eq_false_iff]
            by_cases h0 : 0 < L
            · exact .inl (decide_eq_false (by omega))
            · exact .inr (decide_eq_false (by omega))
          have hcases : decide ((c : Int) < 16) = false ∨ (decide ((c : Int) < 16) = true ∧ decide ((0 : Int) < (L : Int)) = false ∧ decide (0 < L) = false) := by
            by_cases h1 : c < 16
            · exact .inr ⟨decide_eq_true (by omega), decide_eq_false (by omega), decide_eq_false (by omega)⟩
            · exact .inl (decide_eq_false (by omega))
          clear hd hcl
          rcases hcases with hd1 | ⟨hd1, hd2, hd3⟩
          · go_wp2_with fail
            go_roundg (F - (T + 1))
            case measure => have := HG.out; omega
            case rel => exact ⟨T + 1, by omega, rfl, by rw [HEQ.out, HLL.out], by go_num, by rw [HEQ.out]; exact HS.out⟩
          · go_wp2_with fail
            go_roundg (F - (T + 1))
            case measure => have := HG.out; omega
            case rel => exact ⟨T + 1, by omega, rfl, by rw [HEQ.out, HLL.out], by go_num, by rw [HEQ.out]; exact HS.out⟩
    · have hTF : T = F := by omega
      subst hTF
      have HFIN := Lib.hid hst
      clear HNX HLK HRL2 hst
      obtain ⟨_, q0, q1, _, hrb⟩ := HSA.out wr HFIN.out.apart
      have HRBW := Lib.hid hrb
      obtain ⟨gv, hgv⟩ : ∃ gv, (wvT gm rr S T).gv = gv := ⟨_, rfl⟩
      have HGV := Lib.hid hgv
      have HKU : Hid (RowU wr K gv) := Lib.hid (by rw [← hgv]; exact HFIN.out.giv)
      have HBW : Hid (Below w.heap.size w wr) := Lib.hid (HB3.out.trans ((HK4.out.mono HB3.out.size).trans (HFIN.out.apart.below (by have := HB3.out.size; have := HK4.out.size; omega) fun k hk e => by have := HNE.out; omega)))
      obtain ⟨wz, hwz⟩ : ∃ wz, wz = wr := ⟨_, rfl⟩
      subst hwz
      obtain ⟨w8, X, hw8, hX, hXl, hb8, hxb⟩ := box_any wz #[.int .i64 0, .int .i64 0, .int .i64 0, .slice none 0 0] 38
      have HXB := Lib.hid hxb
      have HX0 := Lib.hid (show wz.heap.size ≤ X ∧ X < w8.heap.size from ⟨by omega, hXl⟩)
      have HPK0 : Hid (PkSt X w8.heap.size u (S : Int) wz (w8.setRow X #[.int .i64 u, .int .i64 (S : Int), .int .i64 0, .slice none 0 0]) (.slice none 0 0) (mkP gv 0)) := Lib.hid ⟨below_row hb8 (by omega) _, setRow_heap _ _ _ _ _ _ hxb, ⟨rfl, .inl ⟨rfl, rfl⟩⟩, by simp [World.setRow]⟩
      clear hgv hrb hb8 hxb
      go_wp2_with (refine wpList_store_row rfl _ _ _ rfl X #[.int .i64 u, .int .i64 (S : Int), .int .i64 0, .slice none 0 0] rfl rfl 38 _ HXB.out (Try.sizePl _ _ _ _) rfl (one4 _ _ _ _ _ _) ?_)
      clear hw8 hX q0 q1
      obtain ⟨B, hB⟩ : ∃ B, w8.heap.size = B := ⟨_, rfl⟩
      rw [hB] at HPK0 HX0
      have HKX : Hid (K < wz.heap.size ∧ R < wz.heap.size) := Lib.hid ⟨HKU.out.lt, heap_lt HRBW.out⟩
      obtain ⟨i0, hi0, hz0, hz1, hz2⟩ := info_parts Try.infoPc
      clear hB
      go_loopg [12] 16 (fun gg s12 wr => ∃ (c : Nat) (v : Value), c ≤ 16 ∧ gg = 16 - c ∧ s12 = .int .i64 c ∧ PkSt X B u (S : Int) wz wr v (mkP gv c))
      case atStart => exact ⟨0, _, Nat.zero_le _, rfl, rfl, HPK0.out⟩
      case round =>
        obtain ⟨c, v, hc, hgg, rfl, hst⟩ := hrel
        have HG3 := Lib.hid hgg
        have HPK := Lib.hid hst
        clear hgg hst
        by_cases hlt3 : c < 16
        · have hcz : (c : Int) < 16 := by omega
          have hc0 : (0 : Int) ≤ (c : Int) := by omega
          have t0 := (HKU.out.keep HPK.out.ap).cell hlt3
          obtain ⟨y, hy⟩ : ∃ y, gv c = y := ⟨_, rfl⟩
          rw [hy] at t0
          have HY := Lib.hid hy
          clear hy
          by_cases hy0 : y = 0
          · subst hy0
            have HN : Hid (mkP gv (c + 1) = mkP gv c) := Lib.hid (by rw [mkP, if_pos HY.out, List.append_nil])
            go_wp2_with fail
            go_roundg (16 - (c + 1))
            case measure => have := HG3.out; omega
            case rel => exact ⟨c + 1, v, by omega, rfl, by go_num, by rw [HN.out]; exact HPK.out⟩
          · have hyb : ((y : Int) != 0) = true := by simp; exact hy0
            have HN : Hid (mkP gv (c + 1) = mkP gv c ++ [⟨(c : Int), y⟩]) := Lib.hid (by rw [mkP, if_neg (by rw [HY.out]; exact hy0), HY.out])
            have HQL : Hid ((mkP gv c).length ≤ 16) := Lib.hid (Nat.le_trans (mk_few gv c) hc)
            have hown : ∀ b, b ≤ X → ¬ v.ownBlock = some b := fun b hb e => by have := own_base5 HPK.out.own b e; have := HX0.out; omega
            have HS1 : Hid (∀ W', Apart (fun b => v.ownBlock = some b) wr W' → W'.cell? ⟨K, c, none⟩ = some (.int .u64 (y : Int))) := Lib.hid fun W' ha => by
              have h1 := HKU.out.keep HPK.out.ap
              have h2 := (h1.same (ha.block K h1.lt (hown K (by have := HX0.out; have := HKX.out; omega)))).cell hlt3
              rw [HY.out] at h2
              exact h2
            have HS2 : Hid (∀ W', Apart (fun b => v.ownBlock = some b) wr W' → W'.cell? ⟨X, 3, none⟩ = some v ∧ W'.frozen? ⟨X, 3, none⟩ = false) := Lib.hid fun W' ha => by
              have h1 := (ha.block X (heap_lt HPK.out.x) (hown X (Nat.le_refl _))).trans HPK.out.x
              exact ⟨(four_heads h1).2.2.2, by simp [World.frozen?, h1]⟩
            have HSZ : Hid (∀ W' u2, Apart (fun b => v.ownBlock = some b) wr W' → (W'.setCell ⟨X, 3, none⟩ u2).cell? ⟨K, c, none⟩ = some (.int .u64 (y : Int))) := Lib.hid fun W' u2 ha => by
              have h1 := HKU.out.keep HPK.out.ap
              have h2 := h1.same (ha.block K h1.lt (hown K (by have := HX0.out; have := HKX.out; omega)))
              have h3 := (h2.same (Below.heap_setCell W' ⟨X, 3, none⟩ u2 K (by show K ≠ X; have := HX0.out; have := HKX.out; omega))).cell hlt3
              rw [HY.out] at h3
              exact h3
            have ha0 : Apart (fun b => v.ownBlock = some b) wr wr.drew := (Apart.refl _ wr).drewN 1
            have hkq : Below wr.heap.size wr wr.drew := (Below.refl wr.heap.size wr).drew
            clear hown
            go_wp2_with fail
            refine wp_region_N (S1 := fun w' => w'.cell? ⟨K, c, none⟩ = some (.int .u64 (y : Int))) (S2 := fun w' => w'.cell? ⟨X, 3, none⟩ = some v ∧ w'.frozen? ⟨X, 3, none⟩ = false) (N := fun i => i != 11) (by kernel_rfl) ?_
            change wpAnyN _ _ _ _ _ _ _ 12 (Array.replicate 12 false) _ _
            refine wpAnyN_take false (i := 0) (oi := ⟨some 93, _, _, _, _, _⟩) (v := ?_) rfl (by kernel_rfl) (by kernel_rfl) (by kernel_rfl) (fun _ _ _ h => h) (Or.inl ⟨by kernel_rfl, ?_⟩) ⟨HS1.out _ ha0, fun h => (by cases h)⟩ ?_
            rotate_left
            · (intro w hSw; obtain ⟨hSa, hSb⟩ := hSw; clear hSb; (try dsimp only at hSa); go_simp; try with_reducible rfl)
            (try simp only [Act.put, List.setIfInBounds_toArray, List.set_cons_zero, List.set_cons_succ])
            refine wpAnyN_take true (i := 1) (oi := ⟨some 94, _, _, _, _, _⟩) (v := ?_) rfl (by kernel_rfl) (by kernel_rfl) (by kernel_rfl) (fun _ _ _ h => h) (Or.inl ⟨by kernel_rfl, ?_⟩) ⟨HS1.out _ ha0, fun _ => (HS2.out _ ha0)⟩ ?_
            rotate_left
            · (intro w hSw; obtain ⟨hSa, hSb⟩ := hSw; have hSc := hSb rfl; clear hSb; (try dsimp only at hSa hSc); go_simp; try with_reducible rfl)
            (try simp only [Act.put, List.setIfInBounds_toArray, List.set_cons_zero, List.set_cons_succ])
            refine wpAnyN_take false (i := 2) (oi := ⟨some 95, _, _, _, _, _⟩) (v := ?_) rfl (by kernel_rfl) (by kernel_rfl) (by kernel_rfl) (fun _ _ _ h => h) (Or.inl ⟨by kernel_rfl, ?_⟩) ⟨HS1.out _ ha0, fun h => (by cases h)⟩ ?_
            rotate_left
            · (intro w hSw; obtain ⟨hSa, hSb⟩ := hSw; clear hSb; (try dsimp only at hSa); go_simp; try with_reducible rfl)
            (try simp only [Act.put, List.setIfInBounds_toArray, List.set_cons_zero, List.set_cons_succ])
            refine wpAnyN_take false (i := 3) (oi := ⟨some 96, _, _, _, _, _⟩) (v := ?_) rfl (by kernel_rfl) (by kernel_rfl) (by kernel_rfl) (fun _ _ _ h => h) (Or.inl ⟨by kernel_rfl, ?_⟩) ⟨HS1.out _ ha0, fun h => (by cases h)⟩ ?_
            rotate_left
            · (intro w hSw; obtain ⟨hSa, hSb⟩ := hSw; clear hSb; (try dsimp only at hSa); go_simp; try with_reducible rfl)
            (try simp only [Act.put, List.setIfInBounds_toArray, List.set_cons_zero, List.set_cons_succ])
            refine wpAnyN_take false (i := 4) (oi := ⟨some 97, _, _, _, _, _⟩) (v := ?_) rfl (by kernel_rfl) (by kernel_rfl) (by kernel_rfl) (fun _ _ _ h => h) (Or.inl ⟨by kernel_rfl, ?_⟩) ⟨HS1.out _ ha0, fun h => (by cases h)⟩ ?_
            rotate_left
            · (intro w hSw; obtain ⟨hSa, hSb⟩ := hSw; clear hSb; (try dsimp only at hSa); go_simp; try with_reducible rfl)
            (try simp only [Act.put, List.setIfInBounds_toArray, List.set_cons_zero, List.set_cons_succ])
            refine wpAnyN_take false (i := 5) (oi := ⟨some 98, _, _, _, _, _⟩) (v := ?_) rfl (by kernel_rfl) (by kernel_rfl) (by kernel_rfl) (fun _ _ _ h => h) (Or.inl ⟨by kernel_rfl, ?_⟩) ⟨HS1.out _ ha0, fun h => (by cases h)⟩ ?_
            rotate_left
            · (intro w hSw; obtain ⟨hSa, hSb⟩ := hSw; clear hSb; (try dsimp only at hSa); go_simp; try with_reducible rfl)
            (try simp only [Act.put, List.setIfInBounds_toArray, List.set_cons_zero, List.set_cons_succ])
            refine wpAnyN_take false (i := 6) (oi := ⟨some 99, _, _, _, _, _⟩) (v := ?_) rfl (by kernel_rfl) (by kernel_rfl) (by kernel_rfl) (fun _ _ _ h => h) (Or.inl ⟨by kernel_rfl, ?_⟩) ⟨HS1.out _ ha0, fun h => (by cases h)⟩ ?_
            rotate_left
            · (intro w hSw; obtain ⟨hSa, hSb⟩ := hSw; clear hSb; (try dsimp only at hSa); go_simp; try with_reducible rfl)
            (try simp only [Act.put, List.setIfInBounds_toArray, List.set_cons_zero, List.set_cons_succ])
            refine wpAnyN_take false (i := 7) (oi := ⟨some 100, _, _, _, _, _⟩) (v := ?_) rfl (by kernel_rfl) (by kernel_rfl) (by kernel_rfl) (fun _ _ _ h => h) (Or.inl ⟨by kernel_rfl, ?_⟩) ⟨HS1.out _ ha0, fun h => (by cases h)⟩ ?_
            rotate_left
            · (intro w hSw; obtain ⟨hSa, hSb⟩ := hSw; clear hSb; (try dsimp only at hSa); go_simp; try with_reducible rfl)
            (try simp only [Act.put, List.setIfInBounds_toArray, List.set_cons_zero, List.set_cons_succ])
            refine wpAnyN_step (i := 8) (by kernel_rfl) rfl (by kernel_rfl) ?_
            intro K' hK
            (try simp only [Act.put, List.setIfInBounds_toArray, List.set_cons_zero, List.set_cons_succ])
            go_simp
            obtain ⟨w9, Z, hw9, hZ, hZl, hb9, hz9⟩ := box_any wr #[.int .i64 (c : Int), .int .u64 (y : Int)] 50
            rw [hw9, hZ]
            have hk9 : Below wr.heap.size wr w9.drew := hb9.drew
            have hz9 : w9.drew.heap[Z]? = some (.cells #[.int .i64 (c : Int), .int .u64 (y : Int)] 50 (0, 0)) := hz9
            have ha9 : Apart (fun b => v.ownBlock = some b) wr w9.drew := Apart.of_below hk9
            refine hK.out _ _ (HS1.out _ ha9) (fun _ _ => (HS2.out _ ha9)) ?_
            clear hK K'
            (try simp only [Act.put, List.setIfInBounds_toArray, List.set_cons_zero, List.set_cons_succ])
            refine wpAnyN_step (i := 9) (by kernel_rfl) rfl (by kernel_rfl) ?_
            intro K' hK
            (try simp only [Act.put, List.setIfInBounds_toArray, List.set_cons_zero, List.set_cons_succ])
            have hown9 := own_below5 HPK.out.own hk9
            have hB9 : B ≤ w9.drew.heap.size := Nat.le_trans HPK.out.sz hk9.size
            refine wp_append_ownW _ _ 36 rfl B 50 i0 (.agg #[.int .i64 0, .int .u64 0]) 2 16 Try.underlying36 hi0 hz0 hz1 hz2 rfl (by decide) v (mkP gv c).length (pcsCells (mkP gv c)) (by simp [Act.eval, Act.put]) hown9 ⟨Z, 0, none⟩ 1 1 [.int .i64 (c : Int), .int .u64 (y : Int)] (by simp [Act.eval, Act.put]) rfl (World.news_of_block hz9) (by intro y hy; simp at hy; rcases hy with rfl | rfl <;> rfl) (by have := HQL.out; unfold maxLen; omega) (by have := HQL.out; omega) hB9 ?_
            intro v2 wA hownA hgrow _ hat
            obtain ⟨A2, d2, rfl⟩ := own_form hownA
            have haA : Apart (fun b => v.ownBlock = some b) wr wA := ha9.trans (F' := fun b => v.ownBlock = some b) ⟨hgrow.os, hgrow.tape, hgrow.output, hgrow.size, fun b hb hne => hgrow.block b hb fun e => hne e.symm⟩ fun _ _ h => h
            refine hK.out _ _ (HS1.out _ haA) (fun _ _ => (HS2.out _ haA)) ?_
            clear hK K'
            (try simp only [Act.put, List.setIfInBounds_toArray, List.set_cons_zero, List.set_cons_succ])
            obtain ⟨x3, x5⟩ := HS2.out _ haA
            refine wpAnyN_take false (i := 10) (oi := ⟨some 103, _, _, _, _, _⟩) (v := ?_) rfl (by kernel_rfl) (by kernel_rfl) (by kernel_rfl) (fun _ _ _ h => h) (Or.inl ⟨by kernel_rfl, ?_⟩) ⟨HS1.out _ haA, fun h => (by cases h)⟩ ?_
            rotate_left
            · (intro w hSw; obtain ⟨hSa, hSb⟩ := hSw; clear hSb; (try dsimp only at hSa); go_simp; try with_reducible rfl)
            (try simp only [Act.put, List.setIfInBounds_toArray, List.set_cons_zero, List.set_cons_succ])
            refine wpAnyN_step (i := 11) (by kernel_rfl) rfl (by kernel_rfl) ?_
            intro K' hK
            (try simp only [Act.put, List.setIfInBounds_toArray, List.set_cons_zero, List.set_cons_succ])
            go_simp
            refine hK.out _ _ (HSZ.out _ _ haA) (fun h => by cases h) ?_
            clear hK K'
            (try simp only [Act.put, List.setIfInBounds_toArray, List.set_cons_zero, List.set_cons_succ])
            refine wpAnyN_done (by kernel_rfl) ?_
            have HSTN := Lib.hid (HPK.out.more (y := ⟨(c : Int), y⟩) haA hownA HX0.out)
            clear x3 x5 ha0 hk9 ha9 haA hownA hgrow hat hb9 hz9 hw9 hZ hZl hown9 hB9 hkq
            go_wp2_with fail
            go_roundg (16 - (c + 1))
            case measure => have := HG3.out; omega
            case rel => exact ⟨c + 1, _, by omega, rfl, by go_num, by rw [HN.out]; exact HSTN.out⟩
        · have hc16 : c = 16 := by omega
          subst hc16
          obtain ⟨A2, d2, rfl⟩ := own_form HPK.out.own
          obtain ⟨n2, hn2⟩ : ∃ n2, (mkP gv 16).length = n2 := ⟨_, rfl⟩
          have HRBX := Lib.hid (keep_block HRBW.out HPK.out.ap)
          have HEND : Hid (PcsAt (wr.setRow R #[.int .i64 u, .int .i64 (S : Int), .int .i64 0, .slice A2 (mkP gv 16).length d2]) (.slice A2 (mkP gv 16).length d2) (mkP gv 16) ∧ Below w.heap.size w (wr.setRow R #[.int .i64 u, .int .i64 (S : Int), .int .i64 0, .slice A2 (mkP gv 16).length d2])) := Lib.hid
            ⟨(pcs_of_own (own_keep HPK.out.own fun b hb => setRow_other _ _ _ _ (by have := own_base5 HPK.out.own b hb; have := HX0.out; have := HKX.out; omega))).any, below_row (HBW.out.trans (HPK.out.ap.mono HBW.out.size)) HPQ.out.2.2.2.1 _⟩
          obtain ⟨x0, x1, x2, x3⟩ := four_heads HPK.out.x
          rw [hn2] at HEND x3
          clear hn2
          go_wp2_with (refine wpList_store_row rfl _ _ _ rfl R #[.int .i64 u, .int .i64 (S : Int), .int .i64 0, .slice A2 n2 d2] rfl rfl 38 _ HRBX.out (Try.sizePl _ _ _ _) rfl (one4 _ _ _ _ _ _) ?_)
          refine bodyPost_ret (v := .agg #[.int .i64 u, .int .i64 (S : Int), .int .i64 0, .slice A2 n2 d2]) (results_cell_row rfl _ _ R _ _ _ _ rfl (setRow_heap _ _ _ _ _ _ HRBX.out) Try.underlying38 rfl (Try.sizePl _ _ _ _)) rfl ?_
          exact ⟨A2, d2, n2, rfl, by rw [HGV.out]; exact HEND.out.1, HEND.out.2⟩
end Go.Proofs.Ytkgkanmccaodfaa

/-
  The pieces of a woven unit, as the program makes them.
  Conditions: none.
-/
set_option linter.unusedVariables false
set_option linter.unusedSimpArgs false
namespace Go.Proofs.Ytkgkanmccaodfaa
open Go.RowKit

def RetPc21 (ps : List Pc) (w : World) (e : Ending) (w' : World) : Prop := ∃ A n c, e = .returned (.slice A n c) ∧ PcsIn (fun b => w.heap.size ≤ b) w' (.slice A n c) ps ∧ Below w.heap.size w w'
theorem run_index_arrU (g : Nat → Nat) (w : World) : ∀ k : Nat, k < 16 → (Instr.index 54 (.agg (arrU g)) (.int .i64 (k : Int))).run Try.prog w = .ok (.int .u64 (g k : Nat)) w
  | 0, _ => by kernel_rfl
  | 1, _ => by kernel_rfl
  | 2, _ => by kernel_rfl
  | 3, _ => by kernel_rfl
  | 4, _ => by kernel_rfl
  | 5, _ => by kernel_rfl
  | 6, _ => by kernel_rfl
  | 7, _ => by kernel_rfl
  | 8, _ => by kernel_rfl
  | 9, _ => by kernel_rfl
  | 10, _ => by kernel_rfl
  | 11, _ => by kernel_rfl
  | 12, _ => by kernel_rfl
  | 13, _ => by kernel_rfl
  | 14, _ => by kernel_rfl
  | 15, _ => by kernel_rfl
  | k + 16, h => absurd h (by omega)

set_option maxRecDepth 100000 in
set_option maxHeartbeats 8000000 in
theorem pieces_any (gv : Nat → Nat) (w : World) : Calls Try.prog 61 #[.agg (arrU gv)] w (RetPc21 (mkP gv 16) w) := by
  obtain ⟨i0, hi0, hz0, hz1, hz2⟩ := info_parts Try.infoPc
  obtain ⟨U, hU⟩ : ∃ U, arrU gv = U := ⟨_, rfl⟩
  have HSU : Hid ((Try.prog.info? 54).map (·.size) = some U.size) := Lib.hid (by rw [← hU]; exact Try.sizeAU _)
  have HIX : Hid (∀ c : Nat, c < 16 → ∀ W, (Instr.index 54 (.agg U) (.int .i64 (c : Int))).run Try.prog W = .ok (.int .u64 (gv c : Nat)) W) := Lib.hid (fun c hc W => by rw [← hU]; exact run_index_arrU gv W c hc)
  obtain ⟨w1, X, hw1, hX, hXl, hb1, hbox⟩ := box_any w U 54
  have HX := Lib.hid hbox
  have HB1 := Lib.hid hb1
  have HO0 : Hid (w1.ownsRow w1.heap.size 50 2 (.slice none 0 0) (mkP gv 0).length (pcsCells (mkP gv 0))) := Lib.hid ⟨rfl, .inl ⟨rfl, rfl⟩⟩
  rw [hU]
  clear hU hb1 hbox
  go_enter Try.func61, Try.ntmps61
  go_wp2_with (refine wpList_load_row rfl _ _ rfl X rfl 54 U (0, 0) _ HX.out Try.underlying54 rfl HSU.out ?_)
  clear hw1 hX
  go_loopg [3, 7] 16 (fun gg s3 s7 wr => ∃ c : Nat, c ≤ 16 ∧ gg = 16 - c ∧ s7 = .int .i64 c ∧ Hid (Below w1.heap.size w1 wr) ∧ Hid (wr.ownsRow w1.heap.size 50 2 s3 (mkP gv c).length (pcsCells (mkP gv c))))
  case atStart => exact ⟨0, Nat.zero_le _, rfl, rfl, Lib.hid (Below.refl _ _), HO0⟩
  case round =>
    obtain ⟨c, hc, hgg, rfl, HBW, HO⟩ := hrel
    have HG := Lib.hid hgg
    clear hgg
    by_cases hlt : c < 16
    · have hcz : (c : Int) < 16 := by omega
      have hc0 : (0 : Int) ≤ (c : Int) := by omega
      have hix := HIX.out c hlt
      obtain ⟨y, hy⟩ : ∃ y, gv c = y := ⟨_, rfl⟩
      have HY := Lib.hid hy
      rw [hy] at hix
      clear hy
      by_cases hy0 : y = 0
      · subst hy0
        have HN : Hid (mkP gv (c + 1) = mkP gv c) := Lib.hid (by rw [mkP, if_pos HY.out, List.append_nil])
        go_wp2_with fail
        go_roundg (16 - (c + 1))
        case measure => have := HG.out; omega
        case rel => exact ⟨c + 1, by omega, rfl, by go_num, HBW, by rw [HN.out]; exact HO⟩
      · have hyb : ((y : Int) != 0) = true := by simp; exact hy0
        have HN : Hid (mkP gv (c + 1) = mkP gv c ++ [⟨(c : Int), y⟩]) := Lib.hid (by rw [mkP, if_neg (by rw [HY.out]; exact hy0), HY.out])
        have HQL : Hid ((mkP gv c).length ≤ 16) := Lib.hid (Nat.le_trans (mk_few gv c) hc)
        have hsz := HBW.out.size
        go_wp2_with (at_builtin; refine wpList_append_own _ rfl _ _ 36 rfl w1.heap.size 50 i0 (.agg #[.int .i64 0, .int .u64 0]) 2 16 Try.underlying36 hi0 hz0 hz1 hz2 rfl (by decide) _ _ _ rfl (HO.out.alloc _) ⟨wr.heap.size, 0, none⟩ 1 1 [.int .i64 (c : Int), .int .u64 (y : Int)] rfl rfl ?c1 ?c2 ?c3 ?c4 ?c5 ?_)
        case c1 => exact World.news_of_block (heap_alloc_new wr _)
        case c2 => intro u hu; simp at hu; rcases hu with rfl | rfl <;> rfl
        case c3 => have := HQL.out; unfold maxLen; omega
        case c4 => have := HQL.out; omega
        case c5 => simp; omega
        intro v2 w2 hown2 hgrow _
        have HB2 := Lib.hid ((HBW.out.alloc hsz _).trans (below_grown4 hgrow (by simp; omega) (own_base4 HO.out)))
        have HO2 : Hid (w2.ownsRow w1.heap.size 50 2 v2 (mkP gv (c + 1)).length (pcsCells (mkP gv (c + 1)))) := Lib.hid (by
          rw [HN.out, List.length_append, List.length_singleton, show pcsCells (mkP gv c ++ [⟨(c : Int), y⟩]) = pcsCells (mkP gv c) ++ [.int .i64 (c : Int), .int .u64 (y : Int)] by simp [pcsCells, pcCells]]
          exact hown2)
        clear hown2 hgrow hsz
        go_wp2
        go_roundg (16 - (c + 1))
        case measure => have := HG.out; omega
        case rel => exact ⟨c + 1, by omega, rfl, by go_num, HB2, HO2⟩
    · have hc16 : c = 16 := by omega
      subst hc16
      obtain ⟨A2, d2, rfl⟩ := own_form HO.out
      have HEND := Lib.hid ((pcs_of_own HO.out).mono fun b _ hb => (Nat.le_trans HB1.out.size hb : w.heap.size ≤ b))
      have HBE := Lib.hid (HB1.out.trans (HBW.out.mono HB1.out.size))
      obtain ⟨n2, hn2⟩ : ∃ n2, (mkP gv 16).length = n2 := ⟨_, rfl⟩
      rw [hn2] at HEND ⊢
      clear hn2
      go_wp2_with fail
      go_ret
      exact ⟨_, _, _, rfl, HEND.out, HBE.out⟩
end Go.Proofs.Ytkgkanmccaodfaa
