/-
  firstWrong: what is called with each field answers a number; the first that is no zero is the error, with the field's number; whatever else that call does is kept.
  Conditions: what is called changes blocks that were there before alone, and what it keeps stays as long as these stay.
-/
import Derived.Test.YtnddojngbolbfaaDoorEach
set_option linter.unusedVariables false
namespace Go.Proofs.YtnddojngbolbfaaDoor
open Go.RowKit

/-- What 'do' does with each field: it answers E i; it changes the blocks of F at most, or new ones. -/
def StepJ (g : Nat) (lb : Array Value) (b : Nat) (fs : List Nat) (E : Nat → Int) (F : Nat → Prop) (J : Nat → World → Prop) : Prop :=
  ∀ (i j : Nat) (W : World), fs[i]? = some j → J i W → Calls Tryd.prog g (#[.pointer (some ⟨b, j, none⟩)] ++ lb) W (fun e W' => e = .returned (.int .i64 (E i)) ∧ Apart F W W' ∧ J (i + 1) W')
/-- What J says stays as long as all below B stays. -/
def Stays (B : Nat) (J : Nat → World → Prop) : Prop := ∀ (i : Nat) (W W' : World), Below B W W' → J i W → J i W'

/-- firstWrong behind i fields: its three boxes, behind n blocks. -/
structure FwI (n : Nat) (d : Value) (E : Nat → Int) (F : Nat → Prop) (J : Nat → World → Prop) (w : World) (i : Nat) (W : World) : Prop where
  size : n + 3 ≤ W.heap.size
  dob : Boxed W n 58 d
  first : ∃ v, Boxed W (n + 1) 27 v ∧ ErrAt (n + 3) W v (firstK E i)
  num : Boxed W (n + 2) 3 (.int .i64 i)
  apart : Apart F w W
  j : J i W

theorem fw_set_num {n : Nat} {d : Value} {F : Nat → Prop} {J : Nat → World → Prop} {w : World} {W : World} {v : Value} {ks : List LKey} (hF : ∀ k, F k → k < n) (hJ : Stays n J) (hw : w.heap.size = n) {i : Nat}
    (h1 : n + 3 ≤ W.heap.size) (h2 : Boxed W n 58 d) (h3 : Boxed W (n + 1) 27 v) (h4 : ErrAt (n + 3) W v ks) (u : Value) (h5 : Boxed W (n + 2) 3 u) (h6 : Apart F w W) (h7 : J i W) (x : Value) :
    (n + 3 ≤ (W.setCell ⟨n + 2, 0, none⟩ x).heap.size ∧ Boxed (W.setCell ⟨n + 2, 0, none⟩ x) n 58 d ∧ Boxed (W.setCell ⟨n + 2, 0, none⟩ x) (n + 1) 27 v ∧ ErrAt (n + 3) (W.setCell ⟨n + 2, 0, none⟩ x) v ks ∧
      Boxed (W.setCell ⟨n + 2, 0, none⟩ x) (n + 2) 3 x ∧ Apart F w (W.setCell ⟨n + 2, 0, none⟩ x) ∧ J i (W.setCell ⟨n + 2, 0, none⟩ x)) := by
  refine ⟨by simpa using h1, box_else h2 (by omega) _, box_else h3 (by omega) _, h4.elsewhere (by omega) _, h5.set _, h6.set (p := ⟨n + 2, 0, none⟩) (.inr (by show w.heap.size ≤ n + 2; omega)) _, hJ _ _ _ ?_ h7⟩
  exact (Below.refl n W).setCell (p := ⟨n + 2, 0, none⟩) (by show n ≤ n + 2; omega) _

set_option maxRecDepth 100000 in
set_option maxHeartbeats 1000000 in
theorem fw_step (g : Nat) (lb : Array Value) (eg : EG g) (b : Nat) (fs : List Nat) (E : Nat → Int) (F : Nat → Prop) (J : Nat → World → Prop) (w : World) (hlen : fs.length ≤ 100)
    (hF : ∀ k, F k → k < w.heap.size) (hJ : Stays w.heap.size J) (hs : StepJ g lb b fs E F J) :
    StepI 41 #[.pointer (some ⟨w.heap.size + 2, 0, none⟩), .pointer (some ⟨w.heap.size, 0, none⟩), .pointer (some ⟨w.heap.size + 1, 0, none⟩)] b fs (FwI w.heap.size (.func (.func g) #[] lb) E F J w) := by
  intro i j W hij hI
  obtain ⟨h1, h2, ⟨v, h3, h4⟩, h5, h6, h7⟩ := hI
  have hi : i < 100 := by have := (List.getElem?_eq_some_iff.1 hij).1; omega
  have HS := Lib.hid (fw_set_num hF hJ rfl h1 h2 h3 h4 _ h5 h6 h7 (.int .i64 ((i : Int) + 1)))
  have e2 := h5.cell
  have f2 := h5.frozen
  have hF0 := Lib.hid hF
  have HJ := Lib.hid hJ
  have HD := Lib.hid hs
  have HIJ := Lib.hid hij
  unfold EG at eg
  generalize hn : w.heap.size = n at *
  have HN := Lib.hid hn
  clear hF hJ hs hij h1 h2 h3 h4 h5 h6 h7 hn
  generalize hW1 : W.setCell ⟨n + 2, 0, none⟩ (.int .i64 ((i : Int) + 1)) = W1 at *
  have HW1 := Lib.hid hW1
  clear hW1
  go_enter Tryd.func41, Tryd.ntmps41
  go_upto_region 1 with fail
  rw [HW1.out]
  obtain ⟨s1, s2, s3, s4, s5, s6, s7⟩ := HS.out
  have d2 := s2.cell
  have HC := Lib.hid (HD.out i j W1 HIJ.out s7)
  have h4v := s4.cases
  have S1 := Lib.hid s1
  have S2 := Lib.hid s2
  have S3 := Lib.hid s3
  have S4 := Lib.hid s4
  have S5 := Lib.hid s5
  have S6 := Lib.hid s6
  clear HS s1 s2 s3 s4 s5 s6 s7 e2 f2
  go_wp2_with fail
  go_at_fn g
  refine HC.out.mono ?_
  rintro e w2 ⟨rfl, ha, hj2⟩
  have hn0 := hF0.out
  have T2 := Lib.hid (box_apart S2.out ha (fun h => Nat.lt_irrefl _ (hn0 _ h)))
  have T3 := Lib.hid (box_apart S3.out ha (fun h => by have := hn0 _ h; omega))
  have T4 := Lib.hid (S4.out.apart ha (fun k h => by have := hn0 _ h; omega))
  have T5 := Lib.hid (box_apart S5.out ha (fun h => by have := hn0 _ h; omega))
  have T6 := Lib.hid (S6.out.trans ha (fun x _ h => h))
  have HJ2 := Lib.hid hj2
  have hsz := ha.size
  have hs1 := S1.out
  have c3 := T3.out.cell
  have g3 := T3.out.frozen
  have c5 := T5.out.cell
  have hlt3 := T3.out.lt
  clear ha hj2 d2 hn0
  rcases h4v with ⟨rfl, hk⟩ | ⟨b', rfl, hk⟩
  · have hE := fun W => run_eql_nil_nil (P := Tryd.prog) W 27 (by kernel_rfl)
    have HK := Lib.hid (show firstK E (i + 1) = if E i = 0 then [] else [(E i, fieldS, ((i + 1 : Nat) : Int))] by
      conv => lhs; unfold firstK
      rw [if_pos hk])
    clear hk
    go_wp2_with fail
    refine (new_any (E i) fieldS ((i : Int) + 1) w2).mono ?_
    rintro e w3 ⟨v3, rfl, he3, hb3⟩
    have U2 := Lib.hid (box_keep T2.out hb3)
    have U3 := box_keep T3.out hb3
    have U5 := Lib.hid (box_keep T5.out hb3)
    have U6 := Lib.hid (T6.out.trans (Apart.of_below hb3) (fun x _ h => h))
    have HJ3 := Lib.hid (HJ.out _ _ _ (hb3.mono (by have := hlt3; omega)) HJ2.out)
    have U7 := Lib.hid he3
    have hsz3 := hb3.size
    have k3 := U3.cell
    have l3 := U3.frozen
    have V3 := Lib.hid U3
    have he3v := he3.cases
    clear c3 g3 c5 hb3 U3 he3
    have HEND := Lib.hid (show FwI n (.func (.func g) #[] lb) E F J w (i + 1) (w3.setCell ⟨n + 1, 0, none⟩ v3) from by
      refine ⟨by simp; omega, box_else U2.out (by omega) _, ⟨v3, V3.out.set _, ?_⟩, box_else U5.out (by omega) _, U6.out.set (p := ⟨n + 1, 0, none⟩) (.inr (by have := HN.out; show w.heap.size ≤ n + 1; omega)) _, HJ.out _ _ _ ((Below.refl n w3).setCell (p := ⟨n + 1, 0, none⟩) (by show n ≤ n + 1; omega) _) HJ3.out⟩
      rw [HK.out]
      exact (U7.out.weaken (by omega)).elsewhere (by omega) _)
    rcases he3v with ⟨rfl, _⟩ | ⟨b3, rfl, _⟩
    all_goals
      go_wp2
      refine bodyPost_end (results_none rfl _ _ _) rfl ?_
      exact ⟨rfl, HEND.out⟩
  · have hE := fun W x => run_eql_held_nil (P := Tryd.prog) W 27 80 x (by kernel_rfl)
    have HK := Lib.hid (show firstK E (i + 1) = firstK E i by
      conv => lhs; unfold firstK
      rw [if_neg hk])
    clear hk
    go_wp2
    refine bodyPost_end (results_none rfl _ _ _) rfl ?_
    refine ⟨rfl, by omega, T2.out, ⟨_, T3.out, ?_⟩, T5.out, T6.out, HJ2.out⟩
    rw [HK.out]
    exact T4.out

/-- firstWrong. -/
theorem firstWrong_any (g : Nat) (lb : Array Value) (eg : EG g) (eg1 : EG 41) (b : Nat) (op : Int) (fs : List Nat) (hfs : fieldsT op = some fs) (E : Nat → Int) (F : Nat → Prop) (J : Nat → World → Prop) (w : World)
    (hop : w.cell? ⟨b, 0, none⟩ = some (.int .i64 op)) (hb : b < w.heap.size) (hF : ∀ k, F k → k < w.heap.size) (hJ : Stays w.heap.size J) (h0 : J 0 w) (hs : StepJ g lb b fs E F J) :
    Calls Tryd.prog 21 #[.pointer (some ⟨b, 0, none⟩), .func (.func g) #[] lb] w (fun e w' => ∃ v, e = .returned v ∧ ErrAt w.heap.size w' v (firstK E fs.length) ∧ Apart F w w' ∧ J fs.length w') := by
  have HW := Lib.hid (fun W (hop : W.cell? ⟨b, 0, none⟩ = some (.int .i64 op)) h0 => each_any 41 _ eg1 b op fs hfs W hop _ h0 (fw_step g lb eg b fs E F J w (by have := fieldsT_len hfs; omega) hF hJ hs))
  have HI : Hid (FwI w.heap.size (.func (.func g) #[] lb) E F J w 0 (((w.alloc (.cells #[.func (.func g) #[] lb] 58)).alloc (.cells #[.nilIface] 27)).alloc (.cells #[.int .i64 0] 3))) := by
    have b1 : Below w.heap.size w (w.alloc (.cells #[.func (.func g) #[] lb] 58)) := (Below.refl _ _).alloc (Nat.le_refl _) _
    have b2 : Below w.heap.size w ((w.alloc (.cells #[.func (.func g) #[] lb] 58)).alloc (.cells #[.nilIface] 27)) := b1.alloc (by simp) _
    have b3 : Below w.heap.size w (((w.alloc (.cells #[.func (.func g) #[] lb] 58)).alloc (.cells #[.nilIface] 27)).alloc (.cells #[.int .i64 0] 3)) := b2.alloc (by simp; omega) _
    refine ⟨by simp, ?_, ⟨.nilIface, ?_, ErrAt.nil _ _⟩, ?_, Apart.of_below b3, hJ _ _ _ b3 h0⟩
    · exact ((Boxed.new w _ _).alloc _).alloc _
    · have := Boxed.new (w.alloc (.cells #[.func (.func g) #[] lb] 58)) 27 .nilIface
      rw [World.size_alloc] at this
      exact this.alloc _
    · have := Boxed.new ((w.alloc (.cells #[.func (.func g) #[] lb] 58)).alloc (.cells #[.nilIface] 27)) 3 (.int .i64 0)
      rw [World.size_alloc, World.size_alloc] at this
      exact this
  have hop' : ∀ o1 o2 o3, (((w.alloc o1).alloc o2).alloc o3).cell? ⟨b, 0, none⟩ = some (.int .i64 op) := fun o1 o2 o3 => by
    rw [World.cell?_alloc_lt _ _ ⟨b, 0, none⟩ (by simp; omega), World.cell?_alloc_lt _ _ ⟨b, 0, none⟩ (by simp; omega), World.cell?_alloc_lt _ _ ⟨b, 0, none⟩ hb]; exact hop
  have HO := Lib.hid hop'
  clear hF hJ h0 hs hop hop'
  go_enter Tryd.func21, Tryd.ntmps21
  go_wp2_with fail
  refine (HW.out _ (HO.out _ _ _) HI.out).mono ?_
  rintro e w1 ⟨rfl, h1, h2, ⟨v, h3, h4⟩, h5, h6, h7⟩
  have c3 := h3.cell
  have H4 := Lib.hid h4
  have H6 := Lib.hid h6
  have H7 := Lib.hid h7
  clear h1 h2 h3 h4 h5 h6 h7
  go_wp2
  go_ret
  exact ⟨v, rfl, H4.out.weaken (by omega), H6.out, H7.out⟩
end Go.Proofs.YtnddojngbolbfaaDoor
