package parse

// Shortest is what Check reads, to hold its length against those of other texts.
var Shortest = shortest
