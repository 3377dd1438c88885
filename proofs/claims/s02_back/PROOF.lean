import PyProof.Rows.All
import KE.OsGo
import KE.OsArgs
import PySem.Challenge.RW_handedover_s02_back
namespace My
open Sc11 Sc11Neutral
/-- The specification's run of P has come to Q: k numbers were asked for, and what was asked is told in asked. -/
structure Tie (P : Proc) (s : List Int) (k : Nat) (asked : List Int) (Q : Proc) : Prop where
  eq : through 100000 s P [] = through (100000 - k) (s.drop k) Q asked.reverse
theorem Tie.start (P : Proc) (s : List Int) : Tie P s 0 [] P := ⟨rfl⟩
theorem drop_head (s : List Int) (k : Nat) : (s.drop k).headD 0 = s.getD k 0 := by
  induction s generalizing k with
  | nil => simp
  | cons a s ih => cases k with
    | zero => rfl
    | succ k => simp
theorem Tie.turn {P : Proc} {s : List Int} {k : Nat} {asked : List Int} {w c : Nat} {x y : Int} {K : Int → Proc} (T : Tie P s k asked (.ask ⟨w, c, x, y⟩ K)) (hk : k < 100000) :
    Tie P s (k + 1) (asked ++ [(w : Int), (c : Int), x, y]) (K (s.getD k 0)) := by
  refine ⟨?_⟩
  rw [T.eq]
  have e : 100000 - k = (100000 - (k + 1)) + 1 := by omega
  rw [e]
  show through (100000 - (k + 1)) ((s.drop k).drop 1) (K ((s.drop k).headD 0)) (y :: x :: (c : Int) :: (w : Int) :: asked.reverse) = _
  rw [drop_head, List.drop_drop, List.reverse_append]
  rfl
theorem Tie.done {P : Proc} {s : List Int} {k : Nat} {asked : List Int} {z : Ans} (T : Tie P s k asked (.done z)) (hk : k < 100000) :
    through 100000 s P [] = (asked, z) := by
  rw [T.eq]
  have e : 100000 - k = (100000 - (k + 1)) + 1 := by omega
  rw [e]
  show (asked.reverse.reverse, z) = _
  rw [List.reverse_reverse]
/-- What is given back. -/
theorem Tie.given {c : Sc11Neutral.Call} {q : Sc11.Call} {s : List Int} {k : Nat} {asked : List Int} {z : Ans} (hc : callOf c = some (q, s)) (T : Tie (proc q) s k asked (.done z)) (hk : k < 100000) :
    f c = z.value :: (listed z.out ++ listed asked) := by
  unfold f
  rw [hc]
  show (through 100000 s (proc q) []).2.value :: (listed (through 100000 s (proc q) []).2.out ++ listed (through 100000 s (proc q) []).1) = _
  rw [T.done hk]
theorem nat_of {f : Int} (h : 0 ≤ f) : ((f.toNat : Nat) : Int) = f := Int.toNat_of_nonneg h

/-- back: the row turned round -/
structure Back (f c b : Int) (s pre asked : List Int) (r : Int) : Prop where
  eq : 0 ≤ f → 0 ≤ c → ∀ rest, pre.length + rest.length ≤ 5000 → Tie (Sc11.fromEnd f.toNat c.toNat (pre ++ rest) b number) s pre.length asked (Sc11.fromEnd f.toNat c.toNat rest r number)
theorem Back.start (f c b : Int) (s : List Int) : Back f c b s [] [] b := ⟨fun _ _ _ _ => Tie.start _ _⟩
theorem Back.turn {f c b r x v : Int} {s pre asked : List Int} (T : Back f c b s pre asked r) (hv : v = s.getD pre.length 0) :
    Back f c b s (pre ++ [x]) (asked ++ [f, c, x, r]) v := by
  refine ⟨fun hf hc rest h => ?_⟩
  rw [List.length_append, List.length_singleton] at h
  have t := (T.eq hf hc (x :: rest) (by rw [List.length_cons]; omega)).turn (by omega)
  rw [nat_of hf, nat_of hc, ← hv] at t
  rw [List.append_assoc, List.length_append, List.length_singleton]
  exact t
theorem Back.whole {f c b r : Int} {s a asked : List Int} (T : Back f c b s a.reverse asked r) (hf : 0 ≤ f) (hc : 0 ≤ c) (h : a.length ≤ 4096) :
    PySc11.back f c b a s = r :: 0 :: (asked.length : Int) :: asked := by
  have t := T.eq hf hc [] (by rw [List.length_nil, List.length_reverse]; omega)
  rw [List.append_nil] at t
  exact t.given (q := .back a f.toNat c.toNat b) rfl (by rw [List.length_reverse]; omega)

end My

open PySem PySem.W
set_option Elab.async false
theorem My.said : PySem.Challenge.rw_handedover_s02_back.wellSaid = true := by decide +kernel

theorem My.in_len {l : List Int} {lo hi : Nat} (h : Codec.inLen lo hi l = true) : l.length ≤ hi := by
  unfold Codec.inLen Codec.inNat at h
  exact of_decide_eq_true (Bool.and_eq_true_iff.mp h).2
abbrev My.Pre (f c b : Int) (a s : List Int) : Prop := PySem.Challenge.rw_handedover_s02_back.pre [.int f, .int c, .int b, ofPy (.list (a.map .int)), ofPy (.list (s.map .int))] = true
theorem My.pre_len {f c b : Int} {a s : List Int} (h : My.Pre f c b a s) : 0 ≤ f ∧ 0 ≤ c ∧ a.length ≤ 4096 := by
  obtain ⟨⟨f', c', b', a', s', u⟩, w, q, e⟩ := os_pre My.said h
  have i1 := List.cons.inj e
  have i2 := List.cons.inj i1.2
  have i3 := List.cons.inj i2.2
  have i4 := List.cons.inj i3.2
  have j1 := os_j_int i1.1
  have j2 := os_j_int i2.1
  have j4 := os_j_ints i4.1
  subst j1 j2 j4
  have w1 := Bool.and_eq_true_iff.mp w
  have w2 := Bool.and_eq_true_iff.mp w1.2
  have w3 := Bool.and_eq_true_iff.mp w2.2
  have w4 := Bool.and_eq_true_iff.mp w3.2
  exact ⟨of_decide_eq_true (Bool.and_eq_true_iff.mp w1.1).1, of_decide_eq_true (Bool.and_eq_true_iff.mp w2.1).1, My.in_len (Bool.and_eq_true_iff.mp w4.1).1⟩
/-- the word: of the request -/
structure My.Word {f c b : Int} {a s : List Int} (h : My.Pre f c b a s) (pre asked : List Int) (r : Int) : Prop where
  eq : My.Back f c b s pre asked r
section
open PySem.Calls PyProof.Rows
variable {prog : Program} {w : World} {A : Around} {E : Value → Shared → Prop} {s : Shared} {h₀ h : Heap} {L D b : Addr} {m : Str → Option Value} {news news' : List (Addr × Obj)} {us ys : List Value} {ns ms : List Int} {n n2 : Nat}
/-- xs.extend(ys), both lists of whole numbers of the call's own -/
theorem My.extend {Q : Value → Shared → Prop} (F : Fr h₀ L s.heap m) (N : News h₀ L s.heap news) (U : Upd D (listOf us.toArray n) (listOf (us ++ ys).toArray (n + 1)) news news') (hb : (b, listOf ys.toArray n2) ∈ news)
    (hi : IntsAre us ns) (hj : IntsAre ys ms) (hne : ms.length ≠ 0) (hz : ns.length + ms.length ≤ sizeLine)
    (h : ∀ h', Fr h₀ L h' m → News h₀ L h' news' → IntsAre (us ++ ys) (ns ++ ms) → Q .none { s with heap := h' }) : wpAny (model prog w) A (call (.builtin "list.extend") [.ref D, .ref b]) Q E s := by
  have l1 : us.toArray.size = ns.length := by simp [hi.length]
  have l2 : ys.toArray.size = ms.length := by simp [hj.length]
  have hs : us.toArray.size + ys.toArray.size ≤ sizeLine := by rw [l1, l2]; exact hz
  refine kl_extend F N hb (by simp) (by rw [Array.length_toList, l2]; exact hne) U (extend_door hs) (by rw [Array.length_toList, l1]; omega) (by omega) fun h' F' N' => h h' F' N' (hi.append hj)
end
local macro_rules | `(tactic| walk_at "call builtin:list.extend") => `(tactic| (k_here; (with_reducible show wpAny _ _ (call (Value.builtin _) [Value.ref _, Value.ref _]) _ _ _); k_dflt (refine' My.extend ?F ?N ?U ?b ?i ?j ?ne ?z ?_; (case F => k_asm); (case N => k_asm); (case b => k_mem); (case U => k_upd); (case i => with_reducible assumption); (case j => exact .cons _ _ (.cons _ _ (.cons _ _ (.cons _ _ .nil)))); (case ne => exact Nat.succ_ne_zero _); (case z => (simp only [PySem.sizeLine_eq, List.length_cons, List.length_nil]; omega))); intro h' F' N' hI'))

section
open PySem PySem.W PySem.Calls PyProof.Rows PyProof.V
variable {prog : Program} {w : World} {A : Around} {E : Value → Shared → Prop} {s : Shared} {env : Env} {h₀ : Heap} {x : Str} {body : List Stmt} {Q : Flow → Shared → Prop}
/-- A for over reversed(xs), xs a list of whole numbers that stood ahead of the call: by what holds of the part taken so far. -/
theorem My.kst_rev {σ : Type} {I l : Addr} {vs : List Value} {ns : List Int} {m₀ : Str → Option Value} (Led : σ → List (Addr × Obj)) (ps : σ → List (Str × Value)) (Facts : σ → Prop) (stored : List Str) (P : List Int → σ → Prop) (c₀ : σ)
    (hh : A.handled = none) (hl : h₀.IsList l vs.toArray) (hi : IntsAre vs ns) (F : Fr h₀ env.locals s.heap m₀) (N : News h₀ env.locals s.heap ((I, revObj l ((vs.length : Int) - 1)) :: Led c₀)) (hoff : ∀ p ∈ Led c₀, p.1 ≠ I) (hf : Facts c₀) (hk : ∀ p ∈ ps c₀, m₀ p.1 = some p.2) (hp : P [] c₀)
    (turn : ∀ (c : σ) pre post n t (u : Str → Option Value) h tk own, ns.reverse = pre ++ n :: post → n ∈ ns → OwnOff own ((Led c₀).map (·.1)) → Facts c → P pre c →
      Fr h₀ env.locals h (fun y => if y = x then some (.int n t) else kstB (fun z => if stored.contains z then u z else m₀ z) (ps c) y) → News h₀ env.locals h (Led c ++ own) →
      wpAny (model prog w) A (execs body env) (InvPostN h₀ env.locals (KstS Led ps Facts x stored m₀ P (pre ++ [n])) own ((Led c₀).map (·.1)) { s with heap := h, toks := tk } Q) E { s with heap := h, toks := tk })
    (done : ∀ (c : σ) (u : Str → Option Value) h tk, Facts c → P ns.reverse c → Fr h₀ env.locals h (fun y => if y = x then u y else kstB (fun z => if stored.contains z then u z else m₀ z) (ps c) y) → News h₀ env.locals h (Led c) → Q .next { s with heap := h, toks := tk }) :
    wpAny (model prog w) A (pyIter (.ref I)) (fun it s₂ => LoopAtV prog w A h₀ env x body Q E it s₂) E s := by
  have hIx := N _ (List.mem_cons_self ..)
  have NL : News h₀ env.locals s.heap (Led c₀) := fun p hp => N p (List.mem_cons_of_mem _ hp)
  obtain ⟨ol, hol, _⟩ := id hl
  have hlt : l < h₀.objs.size := Heap.lt_size hol
  have hls : s.heap.IsList l vs.toArray := hl.at fun o e => F.keep l o e
  have hne : l ≠ I := fun e => by
    have h1 := hIx.2.2
    rw [← e, hol] at h1
    cases h1
  have hit : s.heap.IsRevIter I l ((vs.length : Int) - 1) := ⟨_, hIx.1, rfl, rfl⟩
  refine wpAny_pyIter_revIter hit ?_
  have W := Walks.listRev (prog := prog) (w := w) hh I l hne vs.toArray
  have hlen : vs.toArray.size = ns.reverse.length := by simp [hi.length]
  have hlen' : vs.length = ns.reverse.length := by simp [hi.length]
  rw [hlen] at W
  refine loop_invN (fun i m nx => KstS Led ps Facts x stored m₀ P (ns.reverse.take i) m nx) W ?_ ?_ ?_ ?_ ⟨Nat.zero_le _, ?_, hls⟩ F NL ⟨c₀, rfl, hf, hk, fun _ _ _ _ => rfl, by simpa using hp⟩ ?_ ?_
  · intro hm
    rcases List.mem_cons.mp hm with e | hm
    · exact hIx.2.1 e.symm
    · exact absurd (Nat.lt_of_lt_of_le hlt F.above) ((List.mem_singleton.mp hm) ▸ Nat.lt_irrefl _)
  · intro b hb
    rw [List.mem_singleton.mp hb]
    exact hIx.2.2
  · intro p hp hI
    exact hoff p hp (List.mem_singleton.mp hI)
  · intro p hp hm
    rcases List.mem_cons.mp hm with e | hm
    · exact hoff p hp e
    · have h1 := (NL p hp).2.2
      rw [List.mem_singleton.mp hm, hol] at h1
      cases h1
  · rw [← hlen']
    have e : (vs.length : Int) - 1 - ((0 : Nat) : Int) = (vs.length : Int) - 1 := by omega
    rw [e]
    exact hit
  · rintro i v m₁ nx h tk own hin hP _ hoff' ⟨c, rfl, hf', h1, h2, hp'⟩ F₁ N₁
    have hlt' : i < ns.reverse.length := hin
    have hlt2 : i < ns.length := by simpa using hlt'
    have hP' : vs[vs.length - 1 - i]? = some v := by
      rw [← hlen'] at hP
      simpa using hP
    have hns : ns[vs.length - 1 - i]? = some (ns.reverse[i]) := by
      have hv : vs.length = ns.length := by simpa using hlen'
      rw [hv, ← List.getElem?_reverse hlt2, List.getElem?_eq_getElem hlt']
    obtain ⟨t, hx⟩ := hi.get _ _ hns
    have hv : v = .int ns.reverse[i] t := by
      rw [hx] at hP'; exact (Option.some.inj hP').symm
    subst hv
    have hn : ns.reverse[i]? = some ns.reverse[i] := List.getElem?_eq_getElem hlt'
    have hs : ns.reverse.take (i + 1) = ns.reverse.take i ++ [ns.reverse[i]] := by rw [List.take_add_one, hn]; rfl
    have e : ns.reverse = ns.reverse.take i ++ ns.reverse[i] :: ns.reverse.drop (i + 1) := by
      have ht := List.take_append_drop (i + 1) ns.reverse
      rw [hs, List.append_assoc] at ht
      exact ht.symm
    have hmem : ns.reverse[i] ∈ ns := List.mem_reverse.mp (List.mem_of_getElem? hn)
    rw [hs]
    exact turn c _ _ _ t m₁ h tk own e hmem hoff' hf' hp' (kst_fr h1 h2 F₁) N₁
  · rintro m₁ nx h tk ⟨c, rfl, hf', h1, h2, hp'⟩ F₁ N₁
    rw [List.take_length] at hp'
    exact done c m₁ h tk hf' hp' (kst_frOut h1 h2 F₁) N₁
end
theorem My.start {f c b : Int} {a s : List Int} (h : My.Pre f c b a s) : ([] : List Int).length = 4 * ([] : List Int).length ∧ ([] : List Int).length ≤ 4096 ∧ My.Word h [] [] b := ⟨rfl, by decide, ⟨My.Back.start _ _ _ _⟩⟩
theorem My.len4 (asked : List Int) (f c x y : Int) {pre : List Int} (n : Int) (h : asked.length = 4 * pre.length) : (asked ++ [f, c, x, y]).length = 4 * (pre ++ [n]).length := by
  simp only [List.length_append, List.length_cons, List.length_nil]
  omega
theorem My.len1 {pre post a : List Int} {n : Int} (e : a = pre ++ n :: post) {k : Nat} (h : a.length ≤ k) : (pre ++ [n]).length ≤ k := by
  rw [e] at h
  simp only [List.length_append, List.length_cons, List.length_nil] at h ⊢
  omega
theorem My.place {asked pre : List Int} (h : asked.length = 4 * pre.length) : ((asked.length : Int).fdiv 4).toNat = pre.length := by
  rw [Int.fdiv_eq_ediv_of_nonneg _ (by decide)]
  omega
theorem My.past {asked pre s : List Int} (h : asked.length = 4 * pre.length) (hv : ¬ (asked.length : Int).fdiv 4 < (s.length : Int)) : 0 = s.getD pre.length 0 := by
  rw [Int.fdiv_eq_ediv_of_nonneg _ (by decide)] at hv
  rw [List.getD_eq_getElem?_getD, List.getElem?_eq_none (by omega)]
  rfl
theorem My.turn {f c b r n : Int} {a s pre post asked : List Int} {h : My.Pre f c b a s} (T : My.Word h pre asked r) (e : a.reverse = pre ++ n :: post) (l : asked.length = 4 * pre.length) :
    (asked ++ [f, c, n, r]).length = 4 * (pre ++ [n]).length ∧ (pre ++ [n]).length ≤ 4096 ∧ My.Word h (pre ++ [n]) (asked ++ [f, c, n, r]) (s.getD ((asked.length : Int).fdiv 4).toNat 0) :=
  ⟨My.len4 _ _ _ _ _ _ l, My.len1 e (by rw [List.length_reverse]; exact (My.pre_len h).2.2), ⟨T.eq.turn (by rw [My.place l])⟩⟩
theorem My.turn0 {f c b r n : Int} {a s pre post asked : List Int} {h : My.Pre f c b a s} (T : My.Word h pre asked r) (e : a.reverse = pre ++ n :: post) (l : asked.length = 4 * pre.length) (hv : ¬ (asked.length : Int).fdiv 4 < (s.length : Int)) :
    (asked ++ [f, c, n, r]).length = 4 * (pre ++ [n]).length ∧ (pre ++ [n]).length ≤ 4096 ∧ My.Word h (pre ++ [n]) (asked ++ [f, c, n, r]) 0 :=
  ⟨My.len4 _ _ _ _ _ _ l, My.len1 e (by rw [List.length_reverse]; exact (My.pre_len h).2.2), ⟨T.eq.turn (My.past l hv)⟩⟩
theorem My.finish {f c b r : Int} {a s asked : List Int} {h : My.Pre f c b a s} (T : My.Word h a.reverse asked r) :
    PySem.Challenge.rw_handedover_s02_back.post [.int f, .int c, .int b, ofPy (.list (a.map .int)), ofPy (.list (s.map .int))] (WData.list (ofPys (List.map PyData.int ([r, 0, (asked.length : Int)] ++ asked)))) = true := by
  have P := My.pre_len h
  have W := T.eq.whole P.1 P.2.1 P.2.2
  clear T P
  obtain ⟨⟨f', c', b', a', s', u⟩, w, q, e⟩ := os_pre My.said h
  clear h
  have i1 := List.cons.inj e
  have i2 := List.cons.inj i1.2
  have i3 := List.cons.inj i2.2
  have i4 := List.cons.inj i3.2
  have i5 := List.cons.inj i4.2
  have j1 := os_j_int i1.1
  have j2 := os_j_int i2.1
  have j3 := os_j_int i3.1
  have j4 := os_j_ints i4.1
  have j5 := os_j_ints i5.1
  subst j1 j2 j3 j4 j5
  rw [e]
  refine os_shut My.said w ?_
  show WData.list _ = WData.list (List.map WData.int (PySc11.back _ _ _ _ _))
  rw [W, ofPys_ints]
  rfl
set_option maxRecDepth 100000 in
set_option maxHeartbeats 8000000 in
theorem PySem.Challenge.cw_handedover_s02_back_holds : PySem.Challenge.rw_handedover_s02_back.Holds := by
  k_with "state" => first
    | exact My.turn (by assumption) (by assumption) (by assumption)
    | exact My.turn0 (by assumption) (by assumption) (by assumption) (by assumption)
  k_with "pyIter ref" => (
    (with_reducible rename OpenSpec.pre _ _ = true => hP9)
    (rename PyProof.Rows.Fr _ _ _ _ => lF')
    (rename PyProof.Rows.News _ _ _ _ => lN')
    (with_unfolding_all refine' My.kst_rev (σ := List Value × List Int × Nat × Int × Tok) (fun c => [(_, W.listOf (List.toArray c.1) c.2.2.1)]) (fun c => [(Str.ofString "r", Value.int c.2.2.2.1 c.2.2.2.2)]) (fun c => PyProof.Rows.IntsAre c.1 c.2.1) [] (fun pre c => c.2.1.length = 4 * pre.length ∧ pre.length ≤ 4096 ∧ My.Word hP9 pre c.2.1 c.2.2.2.1) ([], [], 0, _, _) (by rfl) (by assumption) (by assumption) lF' lN' ?ko ?kf ?kk ?kp ?kt ?ke)
    case ko => exact List.forall_mem_cons.mpr ⟨Nat.ne_of_lt (by assumption), List.forall_mem_nil _⟩
    case kf => exact .nil
    case kk => kst_all
    case kp => exact My.start _
    case' kt =>
      clear lF' lN'
      rintro ⟨us1, as1, cn1, r1, t1⟩ kPre kPost kN kT kU kH kTk kOwn kEq kMem kOff kFacts kInv kFr kNews
      have kMark := kstMark
      dsimp only [kstB] at kFr
      dsimp only at kNews kFacts kInv kOff
      simp only [List.nil_append, List.cons_append] at kNews
      simp only [List.map_cons, List.map_nil] at kOff
      have kLen := PyProof.Rows.IntsAre.length kFacts
      obtain ⟨k1, k2, k3⟩ := kInv
    case' ke =>
      clear lF' lN'
      rintro ⟨us1, as1, cn1, r1, t1⟩ kU kH kTk kFacts kInv kFr kNews
      have kMark := kstMark
      dsimp only [kstB] at kFr
      dsimp only at kNews kFacts kInv
      have kLen := PyProof.Rows.IntsAre.length kFacts
      obtain ⟨k1, k2, k3⟩ := kInv
    all_goals (try k_fold))
  open_ks with [.int 0, .int 0, .int 0, .list [], .list []]
  exact My.finish (by assumption)
#print axioms PySem.Challenge.cw_handedover_s02_back_holds
