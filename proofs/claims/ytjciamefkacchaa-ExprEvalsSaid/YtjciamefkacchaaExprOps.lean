/- The program's operations: operationOf. -/
import Derived.Test.YtjciamefkacchaaLaw
import Derived.Test.YtjciamefkacchaaExprPure
import Derived.Laws.EntriesVeiled
import Derived.Deep.RegionWith
namespace Go.Proofs.Ytjciamefkacchaa
open Go.ChangeShapes Go.WideShapes Go.ChangeAt Go.RowKit

/-- The function that an asking operation asks. -/
def askFn (op : Int) : Nat := if op = 9 then 124 else if op = 14 then 128 else if op = 15 then 129 else if op = 16 then 130 else if op = 17 then 131 else if op = 18 then 132 else 133
/-- The function value of an operation, made in blocks from B on. -/
def OpF (w : World) (B : Nat) (op : Int) (fv : Value) : Prop :=
  (op < 9 ∧ fv = .nilFunc) ∨ ((op = 10 ∨ op = 12) ∧ fv = .func (.func 125) #[] #[]) ∨ (op = 11 ∧ fv = .func (.func 126) #[] #[]) ∨ (op = 13 ∧ fv = .func (.func 127) #[] #[]) ∨
  ((op = 9 ∨ 14 ≤ op) ∧ ∃ b, fv = .func (.func 150) #[] #[.pointer (some ⟨b, 0, none⟩)] ∧ B ≤ b ∧ b < w.heap.size ∧ w.cell? ⟨b, 0, none⟩ = some (.func (.func (askFn op)) #[] #[]))
/-- A value that is the operation op. -/
def OpV (w : World) (B : Nat) (op : Int) (v : Value) : Prop := ∃ fv, v = .agg #[.int .i64 (takesZ op), .int .i64 (opOf op), .int .i64 (opTo op), fv] ∧ OpF w B op fv

theorem OpF.form {w : World} {B : Nat} {op : Int} {fv : Value} (h : OpF w B op fv) : fv = .nilFunc ∨ ∃ g lb, fv = .func (.func g) #[] lb := by
  rcases h with ⟨_, h⟩ | ⟨_, h⟩ | ⟨_, h⟩ | ⟨_, h⟩ | ⟨_, b, h, _⟩
  · exact .inl h
  all_goals exact .inr ⟨_, _, h⟩
theorem OpF.keep {w w' : World} {B : Nat} {op : Int} {fv : Value} (h : OpF w B op fv) (hs : w.heap.size ≤ w'.heap.size) (hk : ∀ p : Addr, B ≤ p.block → p.block < w.heap.size → w'.cell? p = w.cell? p) : OpF w' B op fv := by
  rcases h with h | h | h | h | ⟨h1, b, h2, h3, h4, h5⟩
  · exact .inl h
  · exact .inr (.inl h)
  · exact .inr (.inr (.inl h))
  · exact .inr (.inr (.inr (.inl h)))
  · exact .inr (.inr (.inr (.inr ⟨h1, b, h2, h3, Nat.lt_of_lt_of_le h4 hs, (hk ⟨b, 0, none⟩ h3 h4).trans h5⟩)))
theorem OpF.lower {w : World} {B B' : Nat} {op : Int} {fv : Value} (h : OpF w B op fv) (hB : B' ≤ B) : OpF w B' op fv := by
  rcases h with h | h | h | h | ⟨h1, b, h2, h3, h4⟩
  · exact .inl h
  · exact .inr (.inl h)
  · exact .inr (.inr (.inl h))
  · exact .inr (.inr (.inr (.inl h)))
  · exact .inr (.inr (.inr (.inr ⟨h1, b, h2, Nat.le_trans hB h3, h4⟩)))

theorem asks_any (t o : Int) (K : Nat) (w : World) :
    Calls Try.prog 123 #[.int .i64 t, .int .i64 o, .func (.func K) #[] #[]] w fun e w' => e = .returned (.agg #[.int .i64 t, .int .i64 o, .int .i64 1, .func (.func 150) #[] #[.pointer (some ⟨w.heap.size, 0, none⟩)]]) ∧
      w'.cell? ⟨w.heap.size, 0, none⟩ = some (.func (.func K) #[] #[]) ∧ w.heap.size < w'.heap.size ∧ Below w.heap.size w w' := by
  have hmf : ∀ (fn : Fn) (first cap : Array Value) (w : World), (Instr.makeFunc fn first cap).run Try.prog w = .ok (.func fn first cap) w := fun _ _ _ _ => rfl
  go_enter Try.func123, Try.ntmps123
  go_wp2
  exact bodyPost_ret (v := .agg #[.int .i64 t, .int .i64 o, .int .i64 1, .func (.func 150) #[] #[.pointer (some ⟨w.heap.size, 0, none⟩)]]) (by simp [results, Try.results123, go_sem]) rfl
    ⟨rfl, (World.cell?_alloc_past _ _ _ (by simp)).trans (World.cell?_alloc_at _ _ _ _ rfl), by simp; omega, ((Below.refl _ _).alloc (Nat.le_refl _) _).alloc (by simp) _⟩

/-- What operationOf hands back. -/
def OpPost (w : World) (op : Int) (e : Ending) (w' : World) : Prop := Below w.heap.size w w' ∧
  ((takesZ op < 0 ∧ e = .returned (.tuple #[.agg #[.int .i64 0, .int .i64 0, .int .i64 0, .nilFunc], .bool false])) ∨ (0 ≤ takesZ op ∧ ∃ v, e = .returned (.tuple #[v, .bool true]) ∧ OpV w' w.heap.size op v))
theorem op_plain {w w' : World} {op : Int} {v : Value} (hb : Below w.heap.size w w') (h0 : 0 ≤ takesZ op) (fv : Value) (e : v = .agg #[.int .i64 (takesZ op), .int .i64 (opOf op), .int .i64 (opTo op), fv]) (hf : OpF w' w.heap.size op fv) :
    OpPost w op (.returned (.tuple #[v, .bool true])) w' := ⟨hb, .inr ⟨h0, v, rfl, fv, e, hf⟩⟩

set_option maxHeartbeats 4000000 in
theorem operationOf_leaf (op : Int) (w : World) (h1 : 1 ≤ op) (h2 : op ≤ 8) : Calls Try.prog 108 #[.int .i64 op] w (OpPost w op) := by
  have hc : op = 1 ∨ op = 2 ∨ op = 3 ∨ op = 4 ∨ op = 5 ∨ op = 6 ∨ op = 7 ∨ op = 8 := by omega
  clear h1 h2
  rcases hc with rfl | rfl | rfl | rfl | rfl | rfl | rfl | rfl
  all_goals
    go_enter Try.func108, Try.ntmps108
    go_wp2
  all_goals first
    | exact bodyPost_ret (v := .tuple #[.agg #[.int .i64 1, .int .i64 0, .int .i64 0, .nilFunc], .bool true]) (by simp [results, Try.results108, go_sem]) rfl (op_plain ((Below.refl _ _).alloc (Nat.le_refl _) _) (by decide) _ rfl (.inl ⟨by decide, rfl⟩))
    | exact bodyPost_ret (v := .tuple #[.agg #[.int .i64 0, .int .i64 0, .int .i64 0, .nilFunc], .bool true]) (by simp [results, Try.results108, go_sem]) rfl (op_plain ((Below.refl _ _).alloc (Nat.le_refl _) _) (by decide) _ rfl (.inl ⟨by decide, rfl⟩))

theorem frozen_new (w : World) (c : Array Value) (t : TypeId) (j : Nat) : (w.alloc (.cells c t)).frozen? ⟨w.heap.size, j, none⟩ = false := by
  have h := heap_alloc_new w (.cells c t)
  simp only [World.frozen?, h]
  simp
theorem cell_set_far {w : World} {a p : Addr} (u : Value) (h : p.block ≠ a.block) : (w.setCell a u).cell? p = w.cell? p := World.cell?_of_block (Below.heap_setCell w a u p.block h)
theorem bcell {W w1 : World} (hb : Below W.heap.size W w1) : (∀ b o, b < W.heap.size → w1.cell? ⟨b, o, none⟩ = W.cell? ⟨b, o, none⟩) ∧ (∀ b o, b < W.heap.size → w1.frozen? ⟨b, o, none⟩ = W.frozen? ⟨b, o, none⟩) :=
  ⟨fun b o h => hb.cell (p := ⟨b, o, none⟩) h, fun b o h => hb.frozen (p := ⟨b, o, none⟩) h⟩

set_option maxHeartbeats 4000000 in
theorem operationOf_num (op : Int) (w : World) (h1 : 10 ≤ op) (h2 : op ≤ 13) : Calls Try.prog 108 #[.int .i64 op] w (OpPost w op) := by
  have hc : op = 10 ∨ op = 11 ∨ op = 12 ∨ op = 13 := by omega
  clear h1 h2
  rcases hc with rfl | rfl | rfl | rfl
  all_goals
    go_enter Try.func108, Try.ntmps108
    go_wp2
  all_goals first
    | exact bodyPost_ret (v := .tuple #[.agg #[.int .i64 1, .int .i64 0, .int .i64 0, .func (.func 125) #[] #[]], .bool true]) (by simp [results, Try.results108, go_sem]) rfl (op_plain ((Below.refl _ _).alloc (Nat.le_refl _) _) (by decide) _ rfl (.inr (.inl ⟨by decide, rfl⟩)))
    | exact bodyPost_ret (v := .tuple #[.agg #[.int .i64 2, .int .i64 0, .int .i64 0, .func (.func 125) #[] #[]], .bool true]) (by simp [results, Try.results108, go_sem]) rfl (op_plain ((Below.refl _ _).alloc (Nat.le_refl _) _) (by decide) _ rfl (.inr (.inl ⟨by decide, rfl⟩)))
    | exact bodyPost_ret (v := .tuple #[.agg #[.int .i64 2, .int .i64 0, .int .i64 0, .func (.func 126) #[] #[]], .bool true]) (by simp [results, Try.results108, go_sem]) rfl (op_plain ((Below.refl _ _).alloc (Nat.le_refl _) _) (by decide) _ rfl (.inr (.inr (.inl ⟨by decide, rfl⟩))))
    | exact bodyPost_ret (v := .tuple #[.agg #[.int .i64 2, .int .i64 0, .int .i64 0, .func (.func 127) #[] #[]], .bool true]) (by simp [results, Try.results108, go_sem]) rfl (op_plain ((Below.refl _ _).alloc (Nat.le_refl _) _) (by decide) _ rfl (.inr (.inr (.inr (.inl ⟨by decide, rfl⟩)))))

set_option maxHeartbeats 4000000 in
theorem operationOf_none (op : Int) (w : World) (h : op < 1 ∨ 19 < op) : Calls Try.prog 108 #[.int .i64 op] w (OpPost w op) := by
  have hc : op ≠ 1 ∧ op ≠ 2 ∧ op ≠ 3 ∧ op ≠ 4 ∧ op ≠ 5 ∧ op ≠ 6 ∧ op ≠ 7 ∧ op ≠ 8 ∧ op ≠ 9 ∧ op ≠ 10 ∧ op ≠ 11 ∧ op ≠ 12 ∧ op ≠ 13 ∧ op ≠ 14 ∧ op ≠ 15 ∧ op ≠ 16 ∧ op ≠ 17 ∧ op ≠ 18 ∧ op ≠ 19 := by omega
  obtain ⟨h1, h2, h3, h4, h5, h6, h7, h8, h9, h10, h11, h12, h13, h14, h15, h16, h17, h18, h19⟩ := hc
  have HT : Hid (takesZ op < 0) := Lib.hid (by unfold takesZ; rw [if_neg (by omega), if_neg (by omega), if_neg (by omega)]; decide)
  clear h
  go_enter Try.func108, Try.ntmps108
  go_wp2
  exact bodyPost_ret (v := .tuple #[.agg #[.int .i64 0, .int .i64 0, .int .i64 0, .nilFunc], .bool false]) (by simp [results, Try.results108, go_sem]) rfl
    ⟨(Below.refl _ _).alloc (Nat.le_refl _) _, .inl ⟨HT.out, rfl⟩⟩

theorem op_ask {w w' : World} {op t o : Int} {K : Nat} (hb : Below w.heap.size w w') (ht : takesZ op = t) (ho : opOf op = o) (h1 : opTo op = 1) (h0 : 0 ≤ t) (hop : op = 9 ∨ 14 ≤ op) (hK : askFn op = K) {b : Nat} (hb1 : w.heap.size ≤ b) (hb2 : b < w'.heap.size) (hc : w'.cell? ⟨b, 0, none⟩ = some (.func (.func K) #[] #[])) :
    OpPost w op (.returned (.tuple #[.agg #[.int .i64 t, .int .i64 o, .int .i64 1, .func (.func 150) #[] #[.pointer (some ⟨b, 0, none⟩)]], .bool true])) w' := by
  subst ht ho hK
  exact ⟨hb, .inr ⟨h0, _, rfl, _, by rw [h1], .inr (.inr (.inr (.inr ⟨hop, b, rfl, hb1, hb2, hc⟩)))⟩⟩

set_option maxHeartbeats 4000000 in
theorem operationOf_ask (op : Int) (w : World) (h1 : op = 9 ∨ 14 ≤ op) (h2 : op ≤ 19) : Calls Try.prog 108 #[.int .i64 op] w (OpPost w op) := by
  have hc : op = 9 ∨ op = 14 ∨ op = 15 ∨ op = 16 ∨ op = 17 ∨ op = 18 ∨ op = 19 := by omega
  clear h1 h2
  rcases hc with rfl | rfl | rfl | rfl | rfl | rfl | rfl
  all_goals
    go_enter Try.func108, Try.ntmps108
    go_wp2_with fail
    refine (asks_any _ _ _ _).mono ?_
    rintro e w1 ⟨rfl, hc, hs, hb⟩
    have HC := Lib.hid hc
    have HB := Lib.hid hb
    obtain ⟨e1, e2⟩ := bcell hb
    have c0 : w1.cell? ⟨w.heap.size, 0, none⟩ = some (.int .i64 0) := (e1 _ _ (by simp)).trans (World.cell?_alloc_at _ _ _ _ rfl)
    have c1 : w1.cell? ⟨w.heap.size, 1, none⟩ = some (.int .i64 0) := (e1 _ _ (by simp)).trans (World.cell?_alloc_at _ _ _ _ rfl)
    have c2 : w1.cell? ⟨w.heap.size, 2, none⟩ = some (.int .i64 0) := (e1 _ _ (by simp)).trans (World.cell?_alloc_at _ _ _ _ rfl)
    have c3 : w1.cell? ⟨w.heap.size, 3, none⟩ = some .nilFunc := (e1 _ _ (by simp)).trans (World.cell?_alloc_at _ _ _ _ rfl)
    have f0 : ∀ j, w1.frozen? ⟨w.heap.size, j, none⟩ = false := fun j => (e2 _ _ (by simp)).trans (frozen_new _ _ _ _)
    have hs1 : w.heap.size + 1 < w1.heap.size := by simpa using hs
    clear hc hb e1 e2 hs
    go_wp2
    first
    | exact bodyPost_ret (v := .tuple #[.agg #[.int .i64 1, .int .i64 1, .int .i64 1, .func (.func 150) #[] #[.pointer (some ⟨w.heap.size + 1, 0, none⟩)]], .bool true]) (by simp [results, Try.results108, go_sem, c0, c1, c2, c3]) rfl (op_ask (((((((Below.refl _ _).alloc (Nat.le_refl _) _).trans (HB.out.mono (by simp))).setCell (by simp) _).setCell (by simp) _).setCell (by simp) _).setCell (by simp) _) (by decide) (by decide) (by decide) (by decide) (by decide) rfl (Nat.le_succ _) (by simpa using hs1) ((((cell_set_far _ (by simp)).trans (cell_set_far _ (by simp))).trans (cell_set_far _ (by simp))).trans ((cell_set_far _ (by simp)).trans (by simpa [askFn] using HC.out))))
    | exact bodyPost_ret (v := .tuple #[.agg #[.int .i64 2, .int .i64 (-1), .int .i64 1, .func (.func 150) #[] #[.pointer (some ⟨w.heap.size + 1, 0, none⟩)]], .bool true]) (by simp [results, Try.results108, go_sem, c0, c1, c2, c3]) rfl (op_ask (((((((Below.refl _ _).alloc (Nat.le_refl _) _).trans (HB.out.mono (by simp))).setCell (by simp) _).setCell (by simp) _).setCell (by simp) _).setCell (by simp) _) (by decide) (by decide) (by decide) (by decide) (by decide) rfl (Nat.le_succ _) (by simpa using hs1) ((((cell_set_far _ (by simp)).trans (cell_set_far _ (by simp))).trans (cell_set_far _ (by simp))).trans ((cell_set_far _ (by simp)).trans (by simpa [askFn] using HC.out))))
    | exact bodyPost_ret (v := .tuple #[.agg #[.int .i64 2, .int .i64 0, .int .i64 1, .func (.func 150) #[] #[.pointer (some ⟨w.heap.size + 1, 0, none⟩)]], .bool true]) (by simp [results, Try.results108, go_sem, c0, c1, c2, c3]) rfl (op_ask (((((((Below.refl _ _).alloc (Nat.le_refl _) _).trans (HB.out.mono (by simp))).setCell (by simp) _).setCell (by simp) _).setCell (by simp) _).setCell (by simp) _) (by decide) (by decide) (by decide) (by decide) (by decide) rfl (Nat.le_succ _) (by simpa using hs1) ((((cell_set_far _ (by simp)).trans (cell_set_far _ (by simp))).trans (cell_set_far _ (by simp))).trans ((cell_set_far _ (by simp)).trans (by simpa [askFn] using HC.out))))
    | exact bodyPost_ret (v := .tuple #[.agg #[.int .i64 2, .int .i64 1, .int .i64 1, .func (.func 150) #[] #[.pointer (some ⟨w.heap.size + 1, 0, none⟩)]], .bool true]) (by simp [results, Try.results108, go_sem, c0, c1, c2, c3]) rfl (op_ask (((((((Below.refl _ _).alloc (Nat.le_refl _) _).trans (HB.out.mono (by simp))).setCell (by simp) _).setCell (by simp) _).setCell (by simp) _).setCell (by simp) _) (by decide) (by decide) (by decide) (by decide) (by decide) rfl (Nat.le_succ _) (by simpa using hs1) ((((cell_set_far _ (by simp)).trans (cell_set_far _ (by simp))).trans (cell_set_far _ (by simp))).trans ((cell_set_far _ (by simp)).trans (by simpa [askFn] using HC.out))))

theorem operationOf_any (op : Int) (w : World) : Calls Try.prog 108 #[.int .i64 op] w (OpPost w op) := by
  by_cases h : op < 1 ∨ 19 < op
  · exact operationOf_none op w h
  · by_cases h8 : op ≤ 8
    · exact operationOf_leaf op w (by omega) h8
    · by_cases hn : 10 ≤ op ∧ op ≤ 13
      · exact operationOf_num op w hn.1 hn.2
      · exact operationOf_ask op w (by omega) (by omega)
end Go.Proofs.Ytjciamefkacchaa
